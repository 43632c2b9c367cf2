package tests

import (
	"slices"
	"strconv"
	"strings"
	"testing"

	"loop.example/g00966/impl"
)

// What was made of a text: the text that is told of the answer, a writing of all of it, and whether it is right.
type readOut struct {
	text, all string
	right     bool
	fault     impl.Fault
}

// A function that reads, by the name of what it reads.
type readForm string

const (
	asTerm  readForm = "term"
	asStmts readForm = "stmts"
	asProg  readForm = "prog"
)

var readForms = []readForm{asTerm, asStmts, asProg}

func (form readForm) read(s string) readOut {
	switch form {
	case asTerm:
		m, f := impl.ReadTerm(s)
		return readOut{impl.TermText(m), allOf(m), impl.TermOk(m), f}
	case asStmts:
		list, f := impl.ReadStmts(s)
		return readOut{impl.StmtsText(list, 0), allOfStmts(list), impl.ProgOk(prog(nil, nil, proc("p", list...))), f}
	}
	p, f := impl.ReadProg(s)
	return readOut{impl.ProgText(p), allOfProg(p), impl.ProgOk(p), f}
}

// A writing of the answer that stands beside a fault.
func (form readForm) nothing() string {
	return map[readForm]string{asTerm: allOf(impl.Term{}), asStmts: allOfStmts(nil), asProg: allOfProg(impl.Prog{})}[form]
}

// The text is read, and what came of it tells the same signs.
func wantRead(t *testing.T, form readForm, s string) {
	t.Helper()
	out := form.read(s)
	if out.fault != (impl.Fault{}) || !out.right || !slices.Equal(textsOfSigns(out.text), textsOfSigns(s)) {
		t.Errorf("%s %.200q is read with fault %v, as %.200q", form, s, out.fault, out.text)
	}
}

func wantReadAs(t *testing.T, form readForm, s string, all string) {
	t.Helper()
	if out := form.read(s); out.fault != (impl.Fault{}) || out.all != all {
		t.Errorf("%s %.200q is read with fault %v, as %.200s; want %.200s", form, s, out.fault, out.all, all)
	}
}

func wantReadFault(t *testing.T, form readForm, s string, want impl.Fault) {
	t.Helper()
	if out := form.read(s); out.fault != want || out.all != form.nothing() {
		t.Errorf("%s %.200q is read with fault %v, as %.200s; want fault %v and nothing", form, s, out.fault, out.all, want)
	}
}

// The fault of the text without the `|` is at the place of it.
func wantFaultWhere(t *testing.T, form readForm, code int, marked string) {
	t.Helper()
	ahead, behind, ok := strings.Cut(marked, "|")
	if !ok {
		t.Fatalf("no place is marked in %q", marked)
	}
	wantReadFault(t, form, ahead+behind, impl.Fault{Code: code, At: len(ahead)})
}

func wantByRule(t *testing.T, form readForm, s string) impl.Fault {
	t.Helper()
	fault := faultByRule(form, s)
	if fault == (impl.Fault{}) {
		wantRead(t, form, s)
	} else {
		wantReadFault(t, form, s, fault)
	}
	return fault
}

func textsOfSigns(s string) []string {
	signs, _ := impl.Lex(s)
	var texts []string
	for _, sign := range signs {
		texts = append(texts, sign.Text)
	}
	return texts
}

// What is still due in a text: a sign, behind a `'`, or a form; its number is how deep it stands, or how many stand ahead of it.
type due struct {
	what string
	n    int
}

func signsDue(list ...string) []due {
	var dues []due
	for _, sign := range list {
		dues = append(dues, due{what: "'" + sign})
	}
	return dues
}

// Tells the fault of a text without reading it: what is due is kept in a list, whose first one is held against the next sign.
type faultTeller struct {
	dues  []due
	stmts int
}

func faultByRule(form readForm, s string) impl.Fault {
	signs, fault := impl.Lex(s)
	if fault != (impl.Fault{}) {
		return fault
	}
	signs = append(signs, impl.Sign{At: len(s)})
	teller := &faultTeller{dues: []due{{string(form), 0}, {"end", 0}}}
	for len(teller.dues) > 0 {
		first := teller.dues[0]
		teller.dues = teller.dues[1:]
		took, code := teller.meet(first, signs[0].Text)
		if code != 0 {
			return impl.Fault{Code: code, At: signs[0].At}
		}
		if took {
			signs = signs[1:]
		}
	}
	return impl.Fault{}
}

func (f *faultTeller) put(dues ...due) {
	f.dues = slices.Concat(dues, f.dues)
}

// Whether the sign is taken by what is due, and the code when it cannot stand there.
func (f *faultTeller) meet(first due, sign string) (bool, int) {
	_, isNumber := impl.ReadDecimal(sign)
	isOne := false
	switch first.what {
	case "end":
		isOne = sign == ""
	case "name":
		isOne = impl.IsName(sign)
	case "op":
		isOne = slices.Contains([]string{"+", "-", "*", "<", "==", "and"}, sign)
	case "term":
		if isOne = isNumber || impl.IsName(sign); sign == "(" {
			if first.n == 6 {
				return false, impl.FtDeep
			}
			isOne = true
			f.put(due{"kids", first.n + 1}, due{"')", 0})
		}
	case "kids":
		if sign == "not" {
			f.put(due{"term", first.n})
			return true, 0
		}
		f.put(due{"term", first.n}, due{"op", 0}, due{"term", first.n})
		return false, 0
	case "stmts":
		if sign != "" && sign != "}" {
			f.put(due{"stmt", first.n}, due{"stmts", first.n})
		}
		return false, 0
	case "stmt":
		return f.meetStmt(first.n, sign)
	case "else":
		if sign == "else" {
			f.put(due{"'{", 0}, due{"stmt", first.n}, due{"stmts", first.n}, due{"'}", 0})
		}
		return sign == "else", 0
	case "prog":
		f.put(due{"'globals", 0}, due{"list", 0}, due{"'locks", 0}, due{"list", 0}, due{"procs", 0})
		return false, 0
	case "list":
		if sign != ";" {
			f.put(due{"one", 0})
		}
		return sign == ";", 0
	case "one":
		if isOne = impl.IsName(sign); isOne && first.n == 6 {
			return false, impl.FtMany
		}
		f.put(due{"next", first.n + 1})
	case "next":
		if isOne = sign == "," || sign == ";"; sign == "," {
			f.put(due{"one", first.n})
		}
	case "procs":
		if sign == "proc" && first.n == 8 {
			return false, impl.FtMany
		}
		if sign == "proc" {
			f.stmts = 0
			f.put(due{"name", 0}, due{"'{", 0}, due{"stmts", 0}, due{"'}", 0}, due{"procs", first.n + 1})
		}
		return sign == "proc", 0
	default:
		isOne = "'"+sign == first.what
	}
	if !isOne {
		return false, impl.FtSyntax
	}
	return true, 0
}

func (f *faultTeller) meetStmt(deep int, sign string) (bool, int) {
	var behind []due
	switch sign {
	case "if", "while":
		behind = []due{{"term", 0}, {"'{", 0}, {"stmts", deep + 1}, {"'}", 0}}
		if sign == "if" {
			behind = append(behind, due{"else", deep + 1})
		}
		if deep == 6 {
			return false, impl.FtDeep
		}
	case "skip":
		behind = signsDue(";")
	case "call", "spawn", "lock", "unlock":
		behind = []due{{"name", 0}, {"';", 0}}
	default:
		if !impl.IsName(sign) {
			return false, impl.FtSyntax
		}
		behind = []due{{"'=", 0}, {"term", 0}, {"';", 0}}
	}
	if f.stmts++; f.stmts > 60 {
		return false, impl.FtMany
	}
	f.put(behind...)
	return true, 0
}

// The texts of signs with blanks between them: few, as few as may be, or many of any kind.
func spacedWays(texts []string) []string {
	gaps := []string{" ", "\n", "\t", "\r\n", "  ", " \n\t\r ", "\r"}
	tight, mixed := "", " \n"
	for i, text := range texts {
		if i > 0 && growTogether(texts[i-1], text) {
			tight += gaps[i%len(gaps)]
		}
		tight += text
		mixed += text + gaps[(i*i+i/3)%len(gaps)]
	}
	return []string{strings.Join(texts, " "), strings.Join(texts, "\n"), tight, mixed}
}

// Comes back from its text, and from the same signs with other blanks between them.
func wantBack(t *testing.T, form readForm, text string, all string) {
	t.Helper()
	wantReadAs(t, form, text, all)
	for _, s := range spacedWays(textsOfSigns(text)) {
		if len(s) <= impl.MaxSource {
			wantReadAs(t, form, s, all)
		}
	}
}

func wantTermBack(t *testing.T, m impl.Term) {
	t.Helper()
	wantBack(t, asTerm, impl.TermText(m), allOf(m))
}

func wantStmtsBack(t *testing.T, list []impl.Stmt) {
	t.Helper()
	for _, by := range []int{0, 1, 20} {
		if text := impl.StmtsText(list, by); len(text) <= impl.MaxSource {
			wantBack(t, asStmts, text, allOfStmts(list))
		}
	}
}

func wantProgBack(t *testing.T, p impl.Prog) {
	t.Helper()
	wantBack(t, asProg, impl.ProgText(p), allOfProg(p))
}

func TestReadConstants(t *testing.T) {
	if impl.FtSyntax != 3 || impl.FtDeep != 4 || impl.FtMany != 5 {
		t.Error("a code of chapter 6 is not the document's")
	}
}

func TestReadTermOfEachForm(t *testing.T) {
	for s, want := range map[string]impl.Term{
		"0": num(0), "7": num(7), "1000000000": num(impl.MaxNumber), "x": read("x"), "abcdefghijkl": read("abcdefghijkl"), "a12345678901": read("a12345678901"), "ands": read("ands"), "not1": read("not1"),
		"(not x)": not(read("x")), "(not 0)": not(num(0)), "(not (not y))": not(not(read("y"))), "(not(not(not 1)))": not(not(not(num(1)))),
		"(x + 1)": pair(impl.TmAdd, read("x"), num(1)), "(x - 1)": pair(impl.TmSub, read("x"), num(1)), "(x * 1)": pair(impl.TmMul, read("x"), num(1)),
		"(x < 1)": pair(impl.TmLess, read("x"), num(1)), "(x == 1)": pair(impl.TmSame, read("x"), num(1)), "(x and 1)": pair(impl.TmAnd, read("x"), num(1)),
		"(1+x)": pair(impl.TmAdd, num(1), read("x")), "(x-x)": pair(impl.TmSub, read("x"), read("x")), "(3*4)": pair(impl.TmMul, num(3), num(4)), "(a<b)": pair(impl.TmLess, read("a"), read("b")), "(a==b)": pair(impl.TmSame, read("a"), read("b")),
		"((not a)and(b+1))": pair(impl.TmAnd, not(read("a")), pair(impl.TmAdd, read("b"), num(1))),
		"(not (x < 3))":     not(pair(impl.TmLess, read("x"), num(3))),
		"((x + 1) * 2)":     pair(impl.TmMul, pair(impl.TmAdd, read("x"), num(1)), num(2)),
		"(x + (1 * 2))":     pair(impl.TmAdd, read("x"), pair(impl.TmMul, num(1), num(2))),
		"((a - b) - c)":     pair(impl.TmSub, pair(impl.TmSub, read("a"), read("b")), read("c")),
		"(a - (b - c))":     pair(impl.TmSub, read("a"), pair(impl.TmSub, read("b"), read("c"))),
	} {
		wantReadAs(t, asTerm, s, allOf(want))
		wantReadAs(t, asTerm, "\t "+s+"\r\n", allOf(want))
		wantTermBack(t, want)
	}
}

func TestReadStmtsOfEachForm(t *testing.T) {
	for s, want := range map[string][]impl.Stmt{
		"":                            nil,
		" \n\t\r ":                    nil,
		"skip;":                       {skip},
		"skip ;skip;":                 {skip, skip},
		"x=1;":                        {set("x", num(1))},
		"x=(x+1);y = x;":              {set("x", pair(impl.TmAdd, read("x"), num(1))), set("y", read("x"))},
		"call p;spawn q;":             {word(impl.StCall, "p"), word(impl.StSpawn, "q")},
		"lock a; unlock a;":           {word(impl.StLock, "a"), word(impl.StUnlock, "a")},
		"while 1{}":                   {while(num(1))},
		"while x{skip;x=0;}":          {while(read("x"), skip, set("x", num(0)))},
		"if 1{}":                      {when(num(1))},
		"if(not x){skip;}":            {when(not(read("x")), skip)},
		"if 1{}else{skip;}":           {orElse(when(num(1)), skip)},
		"if 1{skip;}else{skip;x=1;}":  {orElse(when(num(1), skip), skip, set("x", num(1)))},
		"if 1{}if 2{}":                {when(num(1)), when(num(2))},
		"if 1{if 2{}else{skip;}}":     {when(num(1), orElse(when(num(2)), skip))},
		"if 1{if 2{}}else{skip;}":     {orElse(when(num(1), when(num(2))), skip)},
		"if 1{}else{if 2{}}":          {orElse(when(num(1)), when(num(2)))},
		"if 1{}else{while 2{}}skip;":  {orElse(when(num(1)), while(num(2))), skip},
		"while 1{while 2{}while 3{}}": {while(num(1), while(num(2)), while(num(3)))},
		"while 1 { } call p;":         {while(num(1)), word(impl.StCall, "p")},
		"else1 = ifs; while1 = 0;":    {set("else1", read("ifs")), set("while1", num(0))},
	} {
		wantReadAs(t, asStmts, s, allOfStmts(want))
		wantReadAs(t, asStmts, " "+s+" ", allOfStmts(want))
		wantStmtsBack(t, want)
	}
	wantStmtsBack(t, rightStmts())
}

func TestReadProgOfEachForm(t *testing.T) {
	for s, want := range map[string]impl.Prog{
		"globals;locks;":                                  {},
		"globals x;locks;":                                prog([]string{"x"}, nil),
		"globals;locks a;":                                prog(nil, []string{"a"}),
		"globals x,y , z;locks a,b;":                      prog([]string{"x", "y", "z"}, []string{"a", "b"}),
		"globals;locks;proc p{}":                          prog(nil, nil, proc("p")),
		"globals;locks;proc main{skip;}":                  prog(nil, nil, proc("main", skip)),
		"globals x;locks a;proc p{lock a;x=1;}proc q{}":   prog([]string{"x"}, []string{"a"}, proc("p", word(impl.StLock, "a"), set("x", num(1))), proc("q")),
		"globals n;locks n;proc n{n=n;lock n;call n;}":    prog([]string{"n"}, []string{"n"}, proc("n", set("n", read("n")), word(impl.StLock, "n"), word(impl.StCall, "n"))),
		"globals x,x;locks a,a;proc p{}proc p{}":          prog([]string{"x", "x"}, []string{"a", "a"}, proc("p"), proc("p")),
		"globals;locks;proc p{y=z;spawn q;}":              prog(nil, nil, proc("p", set("y", read("z")), word(impl.StSpawn, "q"))),
		"globals;locks;proc p{if 1{}else{skip;}}proc q{}": prog(nil, nil, proc("p", orElse(when(num(1)), skip)), proc("q")),
	} {
		wantReadAs(t, asProg, s, allOfProg(want))
		wantReadAs(t, asProg, "\n"+s+"\n", allOfProg(want))
		wantProgBack(t, want)
	}
	wantProgBack(t, ordinaryProg())
	wantProgBack(t, prog(namesOf("g", 6), namesOf("l", 6), procsOf(8, rightStmts()...)...))
}

func TestTermsComeBackFromTheirTexts(t *testing.T) {
	for seed := range 1000 {
		at := seed
		wantTermBack(t, termBy(&at, 1+seed%impl.MaxDeep, []string{"x", "yy", "z1", "abcdefghijkl"}))
	}
}

func TestStatementsComeBackFromTheirTexts(t *testing.T) {
	met := 0
	for seed := range 3000 {
		at := seed
		list := anyStmts(&at, 1+seed%5, 1+seed%impl.MaxDeep)
		if !slices.ContainsFunc(list, func(s impl.Stmt) bool { return !rightByParts(s) }) && len(flatStmts(list)) <= impl.MaxStmts {
			wantStmtsBack(t, list)
			met++
		}
	}
	if met < 500 {
		t.Errorf("only %d right lists were met", met)
	}
}

func TestProgramsComeBackFromTheirTexts(t *testing.T) {
	met := 0
	for seed := range 6000 {
		at := seed
		if p := anyProg(&at); progOkByRule(p) && len(progTextByRule(p)) <= impl.MaxSource {
			wantProgBack(t, p)
			met++
		}
	}
	if met < 500 {
		t.Errorf("only %d right programs were met", met)
	}
}

// Texts that are read, by what they are read as.
func textsToRead() map[readForm][]string {
	p := ordinaryProg()
	full := prog(namesOf("g", 6), namesOf("l", 6), proc("main", rightStmts()...), proc("go1", p.Procs[1].Body...))
	return map[readForm][]string{
		asTerm: {"x", "7", "(not x)", "(x + 1)", "((not x) and (1 < y))", "(x == (y - (3 * z)))"},
		asStmts: {"skip;", "x = 1;", "call p;", "while x { }", "if x { }", "if x { skip; } else { skip; }", "while (x < 3) { x = (x + 1); } call p;",
			impl.StmtsText(rightStmts(), 0), impl.StmtsText(p.Procs[1].Body, 1), "if 1 { if 2 { } else { lock a; } } else { while (not x) { } }"},
		asProg: {"globals; locks;", "globals x; locks a;", "globals x, y; locks a, b; proc p { }", impl.ProgText(p), impl.ProgText(full)},
	}
}

// One sign of each kind, and all that have a meaning.
func signsToTry() []string {
	return append(append([]string{"x", "p0", "0", "12"}, allMarks...), noNames...)
}

// With a sign left out, one more, or another one in its place, a text is not read as what it told.
func TestTextsWithASignMoreOrLess(t *testing.T) {
	for form, list := range textsToRead() {
		for _, s := range list {
			wantByRule(t, form, s)
			out := form.read(s)
			signs := textsOfSigns(s)
			for at := range len(signs) + 1 {
				var others [][]string
				for _, sign := range signsToTry() {
					others = append(others, slices.Concat(signs[:at], []string{sign}, signs[at:]))
					if at < len(signs) && signs[at] != sign {
						others = append(others, slices.Concat(signs[:at], []string{sign}, signs[at+1:]))
					}
				}
				if at < len(signs) {
					others = append(others, slices.Concat(signs[:at], signs[at+1:]), slices.Concat(signs[:at+1], signs[at:]), signs[:at])
				}
				for _, other := range others {
					text := strings.Join(other, " ")
					if wantByRule(t, form, text); form.read(text) == out {
						t.Errorf("%s %q is read as what %q tells", form, text, s)
					}
				}
			}
		}
	}
}

func TestReadTermFaultsWhere(t *testing.T) {
	for _, marked := range []string{
		"|", "   |", "\n\t|", "|)", "(|", "( |", "(|)", "(x|)", "(x|", "(x |", "((x|))", "x |x", "x |1", "1 |2", "x|)", "x |+ 1", "x |and y", "0 |and", "x|(", "x|;", "x |not",
		"(x + |)", "(x +|", "(x +  |", "(x + 1|", "(x + 1  \n|", "(x + 1 |+ 1)", "(x + 1 |1)", "(x + 1|;", "(x |= 1)", "(x |= = 1)", "(x |not 1)", "(x|, y)", "(x |y)", "(x |1)", "(1 |2)", "(x|(y))", "(x |if y)", "(x |{ y)", "(x * x|",
		"(not|", "(not|)", "(not x|", "(not x |y)", "(not x |and y)", "(not |not x)", "(not (not x)|", "(not |and)", "(not |+ x)", "(not|; x)",
		"|not x", "|not", "|and", "|if", "|- 1", "|+ x", "|= 1", "|== 1", "|< 1", "|;", "|{", "|}", "|, x", "|else", "|skip", "|proc", "|globals", "|locks",
		"(|and x y)", "(|- 1)", "(|* x)", "(|if + 1)", "(|{", "(|;", "(|= x)", "(x == |== y)", "(x == |= y)", "(x < |<", "(x and |and)", "(x and |not y)", "(x and|)",
		"(x + y)|)", "(x + y) |z", "(x + y)|(x + y)", "(x + y) |+ z", "((x + y)|)", "((x + y) |z)", "((x + y) + |)", "((x + y) + z|",
		"(((((( |", "((((((x|", "((((((x + 1)|", "((((((x + 1) + 1) + 1) + 1) + 1) + 1)|)", "((((((x + |)))))))",
	} {
		wantFaultWhere(t, asTerm, impl.FtSyntax, marked)
	}
}

func TestReadStmtsFaultsWhere(t *testing.T) {
	for _, marked := range []string{
		"|;", "|{ }", "|{ skip; }", "|1 = x;", "|(x) = 1;", "|= 1;", "|== 1;", "|,", "|+", "|not x;", "|and;", "|else { skip; }", "|else", "|globals;", "|locks;", "|proc p { }", " |)", "\n\n|12",
		"skip|", "skip  |", "skip |skip;", "skip |x;", "skip|, skip;", "skip;|;", "skip; |{", "skip; |else", "skip;\n |7", "skip |1;", "skip |= 1;",
		"x|", "x |;", "x |x", "x |1;", "x |== 1;", "x |+ 1;", "x|(1)", "x =|", "x = |;", "x = |= 1;", "x = |skip;", "x = |not y;", "x = |-1;", "x = 1|", "x = 1 |y = 2;", "x = 1 |+ 1;", "x = 1|}", "x = y |z;", "x = y|, z;",
		"x = (|;", "x = (y|;", "x = (y + |;", "x = (y + 1|;", "x = (y + 1)|", "x = (y + 1)|)", "x = (y |= 1);", "x = (not|;", "x = (not y|;",
		"call|", "call |;", "call |1;", "call |call;", "call |(p);", "call p|", "call p |q;", "call p|, q;", "call p |= 1;", "call p |skip;", "call p|}",
		"spawn|", "spawn |;", "spawn |1;", "spawn |spawn p;", "spawn p|", "spawn p|)", "lock|", "lock |;", "lock |lock a;", "lock |locks;", "lock a|", "lock a |unlock a;", "unlock|", "unlock |;", "unlock |lock a;", "unlock |(a);", "unlock a|", "unlock a|,",
		"if|", "if |{", "if |;", "if |if", "if |skip;", "if |not x { }", "if (|{", "if (x|{", "if (x|) { }", "if x|", "if x |;", "if x |skip;", "if x |= 1;", "if x |else { skip; }", "if x|}", "if x {|", "if x { |", "if x { |;", "if x { |{", "if x { skip|", "if x { skip;|", "if x { skip; |else { skip; }", "if x { |else { skip; }", "if x {}|;", "if x { } |{ }", "if x { } |1",
		"if x { } else|", "if x { } else |;", "if x { } else |skip;", "if x { } else |if y { }", "if x { } else |else", "if x { } else|}", "if x { } else {|", "if x { } else { \t|", "if x { } else {|}", "if x { skip; } else {  |} skip;", "if x { } else { |;", "if x { } else { |else", "if x { } else { |{", "if x { } else { skip|", "if x { } else { skip;|", "if x { } else { skip; |else", "if x { } else { skip; } |else { skip; }", "if x { } else { skip; }|;",
		"if x { if y { }|", "if x { if y { } else {|} }", "if x { if y { } else { skip; } |else { skip; } }", "if x { } else { if y { } else {|} }",
		"while|", "while |{", "while |;", "while |while", "while |not x { }", "while x|", "while x |;", "while x |skip;", "while x|}", "while x {|", "while x { skip|", "while x { skip;|", "while x { |;", "while x { |else", "while x {}|;", "while x { } |else { skip; }", "while x { } |{", "while x { while y { }|", "while (x <|) { }",
		"|;skip;", "skip; skip; x = 1; call |while;", "skip; while 1 { if 0 { } else { unlock |1; } }",
	} {
		wantFaultWhere(t, asStmts, impl.FtSyntax, marked)
		wantFaultWhere(t, asStmts, impl.FtSyntax, "skip; "+marked)
		wantFaultWhere(t, asProg, impl.FtSyntax, "globals x; locks; proc p { "+marked)
	}
	// Where no Body is to be ended, a `}` cannot stand; where one is, the next one cannot.
	for _, ahead := range []string{"", "skip; ", "x = 1;", "call p;", "if x { }", "if x { } else { skip; }", "while x { }"} {
		wantFaultWhere(t, asStmts, impl.FtSyntax, ahead+"|}")
		wantFaultWhere(t, asStmts, impl.FtSyntax, ahead+"|} skip;")
		wantFaultWhere(t, asProg, impl.FtSyntax, "globals; locks; proc p { "+ahead+"}|}")
	}
}

func TestReadProgFaultsWhere(t *testing.T) {
	for _, marked := range []string{
		"|", "  |", "|;", "|x", "|1", "|locks;", "|proc main { }", "|skip;", "|global x;", "|, x", "|}",
		"globals|", "globals |", "globals x|", "globals x |", "globals|, x;", "globals |locks;", "globals |1;", "globals |(x);", "globals |globals;", "globals x |y;", "globals x |= 1;", "globals x |locks;", "globals x|{", "globals x,|", "globals x, |;", "globals x,|, y;", "globals x, |1;", "globals x, |locks;", "globals x, y|", "globals x, y |z;",
		"globals a, b, c, d, e, f|", "globals a, b, c, d, e, f |g;", "globals a, b, c, d, e, f,|", "globals a, b, c, d, e, f, |;", "globals a, b, c, d, e, f, |1;", "globals a, b, c, d, e, f,|, g;",
		"globals;|", "globals;|;", "globals; |globals;", "globals; |proc p { }", "globals; |x;", "globals; |lock a;", "globals; |skip;", "globals x;|", "globals x; |y;", "globals x; |globals y;",
		"globals; locks|", "globals; locks |proc p { }", "globals; locks|, a;", "globals; locks |locks;", "globals; locks |1;", "globals; locks a|", "globals; locks a |b;", "globals; locks a |proc p { }", "globals; locks a,|", "globals; locks a, |;", "globals; locks a,|, b;", "globals; locks a, |2;",
		"globals; locks a, b, c, d, e, f|", "globals; locks a, b, c, d, e, f |g;", "globals; locks a, b, c, d, e, f, |;", "globals; locks a, b, c, d, e, f, |+",
		"globals; locks;|;", "globals; locks; |skip;", "globals; locks; |locks;", "globals; locks; |globals;", "globals; locks; |x;", "globals; locks; |{ }", "globals; locks;|}", "globals; locks; |1",
		"globals; locks; proc|", "globals; locks; proc |{ }", "globals; locks; proc |1 { }", "globals; locks; proc |proc p { }", "globals; locks; proc |; { }", "globals; locks; proc p|", "globals; locks; proc p|;", "globals; locks; proc p |skip;", "globals; locks; proc p |q { }", "globals; locks; proc p|() { }", "globals; locks; proc p|}",
		"globals; locks; proc p {|", "globals; locks; proc p { \n|", "globals; locks; proc p { skip;|", "globals; locks; proc p { |proc q { } }", "globals; locks; proc p { |;", "globals; locks; proc p { |globals;", "globals; locks; proc p { |{", "globals; locks; proc p { while 1 { }|",
		"globals; locks; proc p { }|;", "globals; locks; proc p { }|}", "globals; locks; proc p { } |skip;", "globals; locks; proc p { } |globals;", "globals; locks; proc p { } |else { skip; }", "globals; locks; proc p { } |locks;", "globals; locks; proc p { } |p { }", "globals; locks; proc p { } proc|", "globals; locks; proc p { } proc q|", "globals; locks; proc p { } proc q {|", "globals; locks; proc p { } proc q { }|;",
	} {
		wantFaultWhere(t, asProg, impl.FtSyntax, marked)
	}
}

// A word of the language is a name nowhere.
func TestWordsOfTheLanguageWhereANameIsWanted(t *testing.T) {
	for _, word := range noNames {
		at := "|" + word
		for _, marked := range []string{at, "(" + at + " + 1)", "(x + " + at + ")", "(not " + at + ")"} {
			if word != "not" || !strings.HasPrefix(marked, "(|") {
				wantFaultWhere(t, asTerm, impl.FtSyntax, marked)
			}
		}
		for _, marked := range []string{"call " + at + ";", "spawn " + at + ";", "lock " + at + ";", "unlock " + at + ";", "x = " + at + ";", "if " + at + " { }", "while " + at + " { }", "if 1 { } else { call " + at + "; }"} {
			wantFaultWhere(t, asStmts, impl.FtSyntax, marked)
			wantFaultWhere(t, asStmts, impl.FtSyntax, "while 1 { "+marked+" }")
			wantFaultWhere(t, asProg, impl.FtSyntax, "globals; locks; proc p { "+marked+" }")
		}
		if !slices.Contains([]string{"call", "if", "lock", "skip", "spawn", "unlock", "while"}, word) {
			wantFaultWhere(t, asStmts, impl.FtSyntax, at+" = 1;")
		} else if word != "if" && word != "while" {
			wantFaultWhere(t, asStmts, impl.FtSyntax, word+" |= 1;")
		}
		for _, marked := range []string{"globals " + at + ";", "globals x, " + at + ";", "globals; locks " + at + ";", "globals; locks x, y, " + at + ", z;", "globals; locks; proc " + at + " { }", "globals; locks; proc p { } proc " + at + " { }", "globals a, b, c, d, e, f, " + at + ";", "globals; locks a, b, c, d, e, f, " + at + ";"} {
			wantFaultWhere(t, asProg, impl.FtSyntax, marked)
		}
	}
}

func TestReadTellsTheFaultOfLex(t *testing.T) {
	for form, list := range textsToRead() {
		for _, s := range append(list, "", ";", "(", "}") {
			for _, wrong := range []string{"%", "X", "007", "1000000001", "1a", "abcdefghijklm", "\x00", "\xff", "é"} {
				wantFaultWhere(t, form, impl.FtSign, "|"+wrong+" "+s)
				wantFaultWhere(t, form, impl.FtSign, s+" |"+wrong)
				wantFaultWhere(t, form, impl.FtSign, s+" |"+wrong+" "+s+" "+wrong)
			}
			long := s + strings.Repeat(" ", impl.MaxSource-len(s))
			wantByRule(t, form, long)
			wantReadFault(t, form, long+" ", impl.Fault{Code: impl.FtLong})
			wantReadFault(t, form, long+"%", impl.Fault{Code: impl.FtLong})
		}
		wantReadFault(t, form, strings.Repeat("(", impl.MaxSource+1), impl.Fault{Code: impl.FtLong})
		wantReadFault(t, form, strings.Repeat(" ", impl.MaxSource+1), impl.Fault{Code: impl.FtLong})
	}
	// What Lex refuses counts ahead of all else, wherever it stands.
	wantFaultWhere(t, asTerm, impl.FtSign, ") x x |%")
	wantFaultWhere(t, asTerm, impl.FtSign, "(((((((((|01")
	wantFaultWhere(t, asStmts, impl.FtSign, strings.Repeat("skip;", 70)+" ; |A")
	wantFaultWhere(t, asStmts, impl.FtSign, strings.Repeat("if 1 { ", 9)+"|$")
	wantFaultWhere(t, asProg, impl.FtSign, "globals a, b, c, d, e, f, g; skip |x0x0x0x0x0x0x")
}

func TestReadTermAtTheMostDeep(t *testing.T) {
	for _, around := range aroundWays() {
		for _, leaf := range []impl.Term{num(3), read("x")} {
			most := nested(impl.MaxDeep, leaf, around)
			wantTermBack(t, most)
			if len(impl.TermText(most)) < 500 {
				wantStmtsBack(t, []impl.Stmt{set("x", most), when(most), while(most), set("y", most)})
				wantStmtsBack(t, []impl.Stmt{nested(impl.MaxDeep, set("x", most), func(s impl.Stmt) impl.Stmt { return while(num(1), s) })})
			}
			for deep := impl.MaxDeep + 1; deep <= impl.MaxDeep+2; deep++ {
				wantTermTooDeep(t, termTextByRule(nested(deep, leaf, around)))
			}
		}
	}
	for _, marked := range []string{"((((((|(", "((((((|(((((((", "( ( ( ( ( (\n|( x + 1 )", "((((((x + |(", "((((((x + 1) + (|((((", "(1 + (1 + (1 + (1 + (1 + (1 + |(1 + 1)))))))", "(not (not (not (not (not (not |(not 1)))))))", "((((((|(not 1) + 1) + 1) + 1) + 1) + 1) + 1)"} {
		wantFaultWhere(t, asTerm, impl.FtDeep, marked)
		wantFaultWhere(t, asStmts, impl.FtDeep, "skip; x = "+marked)
		wantFaultWhere(t, asStmts, impl.FtDeep, "x = ((1 + 1) + 1); while "+marked)
		wantFaultWhere(t, asStmts, impl.FtDeep, "if 1 { } else { if "+marked)
		wantFaultWhere(t, asProg, impl.FtDeep, "globals; locks; proc p { x = "+marked)
	}
}

// The text of a term with the first `(` below six others has its fault there.
func wantTermTooDeep(t *testing.T, text string) {
	t.Helper()
	open := 0
	for at := range len(text) {
		switch {
		case text[at] == '(' && open == 6:
			wantFaultWhere(t, asTerm, impl.FtDeep, text[:at]+"|"+text[at:])
			if len(text) < 5000 {
				wantFaultWhere(t, asStmts, impl.FtDeep, "x = "+text[:at]+"|"+text[at:]+";")
				wantFaultWhere(t, asStmts, impl.FtDeep, "if "+text[:at]+"|"+text[at:]+" { } else { skip; }")
			}
			return
		case text[at] == '(':
			open++
		case text[at] == ')':
			open--
		}
	}
	t.Errorf("no `(` of %q is too deep", text)
}

// The text of a term, also of one that is too deep.
func termTextByRule(m impl.Term) string {
	switch m.Kind {
	case impl.TmNum:
		return strconv.Itoa(m.Num)
	case impl.TmVar:
		return m.Name
	case impl.TmNot:
		return "(not " + termTextByRule(m.Kids[0]) + ")"
	}
	return "(" + termTextByRule(m.Kids[0]) + " " + pairSign(m.Kind) + " " + termTextByRule(m.Kids[1]) + ")"
}

// The text of statements, also of too many or too deep ones, and where each line begins, which a byte 10 ends.
func stmtsTextByRule(list []impl.Stmt) (string, []int) {
	lines, _ := linesByRule(list, 0)
	text := ""
	var begins []int
	for _, line := range lines {
		begins = append(begins, len(text))
		text += line + "\n"
	}
	return text, begins
}

func TestReadStmtsAtTheMostDeep(t *testing.T) {
	for _, around := range aroundStmtWays() {
		most := nested(impl.MaxDeep, skip, around)
		wantStmtsBack(t, []impl.Stmt{most, skip, most})
		wantProgBack(t, prog(nil, nil, proc("p", most), proc("q", most, most)))
		for _, beyond := range aroundStmtWays() {
			over := nested(impl.MaxDeep, beyond(skip), around)
			text, begins := stmtsTextByRule([]impl.Stmt{skip, over, skip})
			_, deeps := linesByRule([]impl.Stmt{skip, over, skip}, 0)
			isTooDeep := func(i int) bool {
				return deeps[i] == 6 && (strings.HasPrefix(text[begins[i]:], "if ") || strings.HasPrefix(text[begins[i]:], "while "))
			}
			at := begins[slices.IndexFunc(indexesOf(begins), isTooDeep)]
			wantFaultWhere(t, asStmts, impl.FtDeep, text[:at]+"|"+text[at:])
			wantFaultWhere(t, asProg, impl.FtDeep, "globals; locks; proc p { } proc q {"+text[:at]+"|"+text[at:]+"}")
		}
	}
	for _, word := range []string{"if", "while"} {
		for _, ahead := range []string{"while 1 { ", "if x { ", "if 1 { } else { ", "skip; while 1 { skip; ", "if 1 { skip; } else { skip; "} {
			six := strings.Repeat(ahead, 6)
			wantFaultWhere(t, asStmts, impl.FtDeep, six+"|"+word)
			wantFaultWhere(t, asStmts, impl.FtDeep, six+"|"+word+" 1 { "+word+" 1 { } }"+strings.Repeat("}", 6))
			wantFaultWhere(t, asStmts, impl.FtSyntax, strings.Repeat(ahead, 5)+word+"|")
			wantFaultWhere(t, asStmts, impl.FtSyntax, six+"|else")
			wantRead(t, asStmts, six+"skip;"+strings.Repeat("}", 6)+word+" 1 { }")
		}
	}
	// One behind the other is not one within the other.
	wantRead(t, asStmts, strings.Repeat("while 1 { } ", 30)+strings.Repeat("if 1 { } ", 30))
	wantRead(t, asStmts, strings.Repeat("while 1 { ", 5)+strings.Repeat("while 1 { } if 1 { } ", 20)+strings.Repeat("}", 5))
	wantRead(t, asStmts, strings.Repeat("x = ((((((1+1)+1)+1)+1)+1)+1); ", 60))
}

func indexesOf(list []int) []int {
	indexes := make([]int, len(list))
	for i := range list {
		indexes[i] = i
	}
	return indexes
}

func TestReadStmtsAtTheMostMany(t *testing.T) {
	for i, body := range bodiesOf(impl.MaxStmts) {
		wantStmtsBack(t, body)
		if text, _ := stmtsTextByRule(body); len(text) < 500 {
			wantProgBack(t, prog(nil, nil, procsOf(impl.MaxProcs, body...)...))
		}
		wantProgBack(t, prog(namesOf("g", 2), nil, proc("p", body...), proc("q", body...)))
		text, _ := stmtsTextByRule(body)
		for _, begin := range []string{"skip;", "x = 1;", "call p;", "spawn p;", "lock a;", "unlock a;", "if 1 { }", "while 1 { }", "skip", "x", "call", "if", "while skip", "lock +"} {
			wantFaultWhere(t, asStmts, impl.FtMany, text+"|"+begin)
			wantFaultWhere(t, asProg, impl.FtMany, "globals; locks; proc p {"+text+"} proc q {"+text+"|"+begin)
		}
		for _, none := range []string{";", "}", "1", "=", "(", "not", "proc", "globals"} {
			wantFaultWhere(t, asStmts, impl.FtSyntax, text+"|"+none)
		}
		wantFaultWhere(t, asProg, impl.FtSyntax, "globals; locks; proc p {"+text+"|")
		if i > 0 && strings.HasSuffix(text, "}\n") {
			wantByRule(t, asStmts, text[:len(text)-2]+"skip; }")
		}
	}
	for _, body := range append(bodiesOf(impl.MaxStmts+1), bodiesOf(impl.MaxStmts+2)...) {
		text, begins := stmtsTextByRule(body)
		begins = slices.DeleteFunc(begins, func(at int) bool { return text[at] == '}' })
		at := begins[60]
		wantFaultWhere(t, asStmts, impl.FtMany, text[:at]+"|"+text[at:])
		wantFaultWhere(t, asProg, impl.FtMany, "globals; locks; proc p { } proc main {"+text[:at]+"|"+text[at:]+"}")
	}
	wantFaultWhere(t, asStmts, impl.FtMany, strings.Repeat("skip;", 60)+"|"+strings.Repeat("skip;", 1000))
	// The statements of an Else count behind those of the Body.
	wantRead(t, asStmts, "if 1 {"+strings.Repeat("skip;", 58)+"} else { skip; }")
	wantFaultWhere(t, asStmts, impl.FtMany, "if 1 {"+strings.Repeat("skip;", 58)+"} else { skip; |skip; }")
	wantFaultWhere(t, asStmts, impl.FtMany, "if 1 {"+strings.Repeat("skip;", 59)+"} else { |skip; }")
	wantFaultWhere(t, asStmts, impl.FtSyntax, "if 1 {"+strings.Repeat("skip;", 59)+"} else { |}")
	wantFaultWhere(t, asStmts, impl.FtMany, "if 1 {"+strings.Repeat("skip;", 59)+"|skip;} else { skip; }")
}

func TestReadProgAtTheMostNames(t *testing.T) {
	for many := range impl.MaxGlobals + 1 {
		wantProgBack(t, prog(namesOf("g", many), namesOf("l", impl.MaxLocks-many)))
	}
	six := strings.Join(namesOf("n", 6), ", ")
	for _, ahead := range []string{"globals ", "globals; locks ", "globals " + six + "; locks "} {
		wantFaultWhere(t, asProg, impl.FtMany, ahead+six+", |n6; locks; proc p { }")
		wantFaultWhere(t, asProg, impl.FtMany, ahead+six+",|n0")
		wantFaultWhere(t, asProg, impl.FtMany, ahead+six+", |x, y, z, if")
		wantFaultWhere(t, asProg, impl.FtMany, ahead+six+", |x y")
		wantFaultWhere(t, asProg, impl.FtSyntax, ahead+six+", |;")
		wantFaultWhere(t, asProg, impl.FtSyntax, ahead+six+", |if, x")
		wantFaultWhere(t, asProg, impl.FtSyntax, ahead+six+",|")
		wantFaultWhere(t, asProg, impl.FtSyntax, ahead+six+" |x")
	}
	// Each list counts by itself.
	wantRead(t, asProg, "globals "+six+"; locks "+six+";")
}

func TestReadProgAtTheMostProcs(t *testing.T) {
	text := "globals; locks;"
	for many := range impl.MaxProcs + 1 {
		wantRead(t, asProg, text)
		wantProgBack(t, prog(nil, nil, procsOf(many)...))
		wantProgBack(t, prog(nil, nil, procsOf(many, skips(impl.MaxStmts)...)...))
		text += " proc p" + strconv.Itoa(many) + " { skip; }"
	}
	text = text[:len(text)-len("proc p8 { skip; }")]
	for _, behind := range []string{"proc p8 { }", "proc", "proc p8", "proc proc", "proc ;", "proc p { } proc q { }", "proc p0 { if"} {
		wantFaultWhere(t, asProg, impl.FtMany, text+"|"+behind)
	}
	for _, behind := range []string{"p8 { }", "skip;", ";", "}", "globals;", "1", "else"} {
		wantFaultWhere(t, asProg, impl.FtSyntax, text+"|"+behind)
	}
}

// Of two faults the one at the lesser place is told; at one place that of the syntax ahead of that of being too deep, and this one ahead of that of being too many.
func TestReadOfTextsWithTwoFaults(t *testing.T) {
	skips60 := strings.Repeat("skip;", 60)
	deep6 := strings.Repeat("while 1 { ", 6)
	full := strings.Repeat("skip;", 54) + deep6
	six := strings.Join(namesOf("n", 6), ",")
	for _, row := range []struct {
		form   readForm
		code   int
		marked string
	}{
		{asTerm, impl.FtDeep, "((((((|(+"}, {asTerm, impl.FtDeep, "((((((|(x"}, {asTerm, impl.FtDeep, "((((((|( ) ) )"},
		{asTerm, impl.FtSyntax, "(|+ (((((((x"}, {asTerm, impl.FtSyntax, "((((((x|(((("}, {asTerm, impl.FtSyntax, "(not x |((((((("}, {asTerm, impl.FtSyntax, "x |((((((("}, {asTerm, impl.FtSyntax, "((((((not |not ("}, {asTerm, impl.FtSyntax, "((((((|) ("},
		{asStmts, impl.FtSyntax, "skip |" + skips60 + skips60}, {asStmts, impl.FtSyntax, "x = 1 |" + deep6 + "if"}, {asStmts, impl.FtSyntax, "x |((((((("}, {asStmts, impl.FtSyntax, deep6 + "|("}, {asStmts, impl.FtSyntax, deep6 + "|;if"}, {asStmts, impl.FtSyntax, deep6 + "skip |if"},
		{asStmts, impl.FtDeep, deep6 + "|if ;"}, {asStmts, impl.FtDeep, deep6 + "|while ((((((("}, {asStmts, impl.FtDeep, deep6 + "|if " + skips60}, {asStmts, impl.FtDeep, deep6 + "x = ((((((|(1 } if"}, {asStmts, impl.FtDeep, "while ((((((|( {" + deep6},
		{asStmts, impl.FtMany, skips60 + "|skip skip"}, {asStmts, impl.FtMany, skips60 + "|x = (((((((1"}, {asStmts, impl.FtMany, skips60 + "|" + deep6 + "if"}, {asStmts, impl.FtMany, skips60 + "|if ;"}, {asStmts, impl.FtMany, full + "|skip; if"}, {asStmts, impl.FtMany, full + "|x x"},
		{asStmts, impl.FtDeep, full + "|if 1 { }"}, {asStmts, impl.FtDeep, full + "|while"}, {asStmts, impl.FtSyntax, full + "|else"}, {asStmts, impl.FtSyntax, full + "|("}, {asStmts, impl.FtSyntax, full + "} |else { skip; }"}, {asStmts, impl.FtMany, full + "} |if 1 { }"},
		{asStmts, impl.FtDeep, strings.Repeat("skip;", 59) + "x = ((((((|(1; skip;"}, {asStmts, impl.FtSyntax, strings.Repeat("skip;", 59) + "x = (1|; skip;"},
		{asProg, impl.FtMany, "globals " + six + ",|x; skip"}, {asProg, impl.FtMany, "globals " + six + ",|x; locks " + six + ", x;"}, {asProg, impl.FtSyntax, "globals x |y; locks " + six + ", x;"}, {asProg, impl.FtSyntax, "globals;|; proc p {" + skips60 + "skip;"},
		{asProg, impl.FtMany, "globals; locks; proc p {" + skips60 + "|skip; } proc"}, {asProg, impl.FtDeep, "globals; locks; proc p {" + deep6 + "|if 1 { } } proc"}, {asProg, impl.FtMany, "globals; locks;" + strings.Repeat("proc p { }", 8) + "|proc {" + deep6 + "if"}, {asProg, impl.FtMany, "globals; locks " + six + ",|x; proc p { x = (((((((1; }"},
		{asProg, impl.FtSyntax, "globals; locks;" + strings.Repeat("proc p { }", 7) + "proc |{ } proc q { } proc r { }"}, {asProg, impl.FtDeep, "globals; locks;" + strings.Repeat("proc p { }", 7) + "proc q { x = ((((((|( } proc r { }"},
	} {
		wantFaultWhere(t, row.form, row.code, row.marked)
	}
}

// Texts of another form than the one that is asked for.
func TestReadOfAnotherForm(t *testing.T) {
	for _, row := range []struct {
		form   readForm
		marked string
	}{
		{asTerm, "|skip;"}, {asTerm, "x |= 1;"}, {asTerm, "|globals; locks;"}, {asTerm, "|if x { }"}, {asTerm, "|"},
		{asStmts, "|(x + 1)"}, {asStmts, "x|"}, {asStmts, "|7"}, {asStmts, "|globals x; locks;"}, {asStmts, "|proc p { }"},
		{asProg, "|skip;"}, {asProg, "|(x + 1)"}, {asProg, "|x"}, {asProg, "|proc p { }"}, {asProg, "|"},
	} {
		wantFaultWhere(t, row.form, impl.FtSyntax, row.marked)
	}
}

func TestReadProgsAtTheMostBytes(t *testing.T) {
	for size := impl.MaxSource - 3; size <= impl.MaxSource; size++ {
		p := progOfSize(size)
		wantReadAs(t, asProg, progTextByRule(p), allOfProg(p))
	}
	for size := impl.MaxSource + 1; size <= impl.MaxSource+3; size++ {
		wantReadFault(t, asProg, progTextByRule(progOfSize(size)), impl.Fault{Code: impl.FtLong})
	}
}

// All that signs of an alphabet can begin, as far as it can be gone on with, and each sign that it cannot be gone on with.
func wantAllByRule(t *testing.T, form readForm, ahead string, alphabet []string, size int) (met int, refused int) {
	t.Helper()
	fault := wantByRule(t, form, ahead)
	if fault != (impl.Fault{}) && (fault.Code != impl.FtSyntax || fault.At < len(ahead)) {
		return 0, 1
	}
	met = 1
	for _, sign := range alphabet {
		if size > 0 {
			m, r := wantAllByRule(t, form, ahead+sign+" ", alphabet, size-1)
			met, refused = met+m, refused+r
		}
	}
	return met, refused
}

func TestReadOfAllThatSignsBegin(t *testing.T) {
	most := strings.Repeat("skip;", 59)
	for _, row := range []struct {
		form     readForm
		ahead    string
		alphabet string
		size     int
	}{
		{asTerm, "", "( ) not x 1 + and ==", 9},
		{asTerm, "(((( ", "( ) not x < if ;", 9},
		{asTerm, "", "- * < == = , { }", 2},
		{asStmts, "", "x = 1 ; if while { } else skip call", 9},
		{asStmts, "", "lock unlock spawn call p ; skip ( ) not", 8},
		{asStmts, "while 1 { while 1 { while 1 { while 1 { while 1 { ", "if 1 { } else skip ; while", 8},
		{asStmts, most, "x = 1 ; if while { } else skip", 8},
		{asStmts, most + "while 1 {", "if 1 { } else skip ;", 9},
		{asProg, "", "globals locks proc x , ; { } skip", 12},
		{asProg, "globals a, b, c, d, ", "e f , ; if locks 1", 8},
		{asProg, "globals; locks a, b, c, d, e ", "f , ; locks proc p { }", 9},
		{asProg, "globals; locks; " + strings.Repeat("proc p { } ", 7), "proc p { } skip ; globals", 10},
		{asProg, "globals; locks; proc p {" + most, "proc p { } skip ; while 1", 10},
	} {
		met, refused := wantAllByRule(t, row.form, row.ahead, strings.Fields(row.alphabet), row.size)
		if refused < 4 || met < 1 {
			t.Errorf("behind %q only %d beginnings and %d faults were met", row.ahead, met, refused)
		}
	}
}

// Texts in which a few signs are others, picked by a number that is multiplied on.
func TestReadOfAnySigns(t *testing.T) {
	faults := map[int]int{}
	for seed := range 4000 {
		at := seed
		next := func(below int) int {
			at = (at*1103 + 12345) % 1000003
			return at / 7 % below
		}
		signs := textsOfSigns(progTextByRule(anyProg(&at)))
		for range next(3) {
			if len(signs) > 0 {
				signs[next(len(signs))] = signsToTry()[next(29)]
			}
		}
		s := spacedWays(signs)[next(4)]
		faults[wantByRule(t, asProg, s).Code]++
		begin := strings.Index(s, "{") + 1
		faults[wantByRule(t, asStmts, s[begin:max(begin, strings.LastIndex(s, "}"))]).Code]++
		row := strings.Join(rowOfSigns(seed, seed%9), " ")
		for _, form := range readForms {
			faults[wantByRule(t, form, row).Code]++
		}
	}
	if faults[0] < 500 || faults[impl.FtSyntax] < 500 || faults[impl.FtMany] < 10 {
		t.Errorf("of each fault only so many were met: %v", faults)
	}
}

// Texts as deep, and as many, as may be, and beyond: picked by a number that is multiplied on.
func TestReadOfDeepAndManyByRule(t *testing.T) {
	faults := map[int]int{}
	for seed := range 1500 {
		at := seed
		next := func(below int) int {
			at = (at*1103 + 12345) % 1000003
			return at / 7 % below
		}
		m := termTextByRule(termBy(&at, 5+next(4), []string{"x", "y"}))
		faults[wantByRule(t, asTerm, m).Code]++
		text := ""
		for range 30 + next(60) {
			text += []string{"skip;", "x = 1;", "while 1 {", "if x {", "} else { call p;", "}", "lock a;", "skip;"}[next(8)]
		}
		for at := 0; at <= len(text); at += max(1, len(text)/3) {
			faults[wantByRule(t, asStmts, text[at:]).Code]++
			faults[wantByRule(t, asProg, "globals; locks; proc p {"+text[at:]+"}").Code]++
		}
		open := ""
		for range 52 + next(12) {
			open += []string{"skip;", "x = 1;", "unlock a;", "if 1 { spawn p; } else { skip; }"}[next(4)]
			if next(9) == 0 {
				open += "while x {"
			}
		}
		faults[wantByRule(t, asStmts, open).Code]++
		faults[wantByRule(t, asStmts, open+strings.Repeat("}", strings.Count(open, "while"))).Code]++
	}
	for _, code := range []int{0, impl.FtSyntax, impl.FtDeep, impl.FtMany} {
		if faults[code] < 50 {
			t.Errorf("fault %d was met only %d times", code, faults[code])
		}
	}
}

// Fills the spare room behind each list of terms.
func spoilBehindTerms(list []impl.Term) {
	for _, m := range list {
		spoilBehindTerms(m.Kids)
	}
	_ = append(list, slices.Repeat([]impl.Term{{Kind: 77}}, cap(list)-len(list))...)
}

func spoilBehindStmts(list []impl.Stmt) {
	for _, s := range list {
		spoilBehindTerms(s.Term.Kids)
		spoilBehindStmts(s.Body)
		spoilBehindStmts(s.Else)
	}
	_ = append(list, slices.Repeat([]impl.Stmt{{Kind: 77}}, cap(list)-len(list))...)
}

// No two lists of an answer share memory: none is changed by what is put behind another.
func TestListsThatAreReadShareNothing(t *testing.T) {
	for _, s := range textsToRead()[asProg] {
		p, _ := impl.ReadProg(s)
		all := allOfProg(p)
		for _, one := range p.Procs {
			spoilBehindStmts(one.Body)
		}
		_ = append(p.Globals, slices.Repeat([]string{"spoilt"}, cap(p.Globals)-len(p.Globals))...)
		_ = append(p.Locks, slices.Repeat([]string{"spoilt"}, cap(p.Locks)-len(p.Locks))...)
		_ = append(p.Procs, slices.Repeat([]impl.Proc{proc("spoilt")}, cap(p.Procs)-len(p.Procs))...)
		if allOfProg(p) != all {
			t.Errorf("lists of what %q is read as share memory", s)
		}
	}
	wide := impl.TermText(nested(impl.MaxDeep, read("x"), func(m impl.Term) impl.Term { return pair(impl.TmAdd, m, m) }))
	m, _ := impl.ReadTerm(wide)
	spoilBehindTerms(m.Kids)
	m.Kids[0].Kids[0] = impl.Term{}
	if impl.TermText(m.Kids[1]) != wide[(len(wide)-1)/2+2:len(wide)-1] || impl.TermOk(m) {
		t.Error("kids of what is read share memory")
	}
}

// What is read is new each time, and hangs on nothing that was read before.
func TestReadIsNewEachTime(t *testing.T) {
	for form, list := range textsToRead() {
		for i, s := range list {
			all := form.read(s).all
			for _, other := range []string{"", ")", "((((((((", strings.Repeat("skip;", 61), strings.Repeat("if 1 {", 9), "globals a, b, c, d, e, f, g;", "%", list[(i+1)%len(list)]} {
				for _, before := range readForms {
					before.read(other)
				}
				wantReadAs(t, form, s, all)
			}
		}
	}
	p, _ := impl.ReadProg("globals x; locks a; proc p { x = (1 + 2); if 1 { } else { skip; } }")
	p.Globals[0], p.Locks[0], p.Procs[0].Name = "y", "b", "q"
	p.Procs[0].Body[0].Term.Kids[0], p.Procs[0].Body[1].Else[0] = read("z"), impl.Stmt{}
	wantReadAs(t, asProg, "globals x; locks a; proc p { x = (1 + 2); if 1 { } else { skip; } }",
		allOfProg(prog([]string{"x"}, []string{"a"}, proc("p", set("x", pair(impl.TmAdd, num(1), num(2))), orElse(when(num(1)), skip)))))
}

// What is at the end of a text and missing is at its length, whatever blanks stand there; of a text that is whole the place is 0.
func TestPlaceOfASignThatIsMissing(t *testing.T) {
	for form, list := range textsToRead() {
		for _, s := range list {
			signs := textsOfSigns(s)
			for many := range signs {
				ahead := strings.Join(signs[:many], " ")
				for _, blanks := range []string{"", " ", "\n\n", " \t\r\n "} {
					text := blanks + ahead + blanks
					if fault := faultByRule(form, text); fault != (impl.Fault{}) {
						wantReadFault(t, form, text, impl.Fault{Code: impl.FtSyntax, At: len(text)})
					} else {
						wantRead(t, form, text)
					}
				}
			}
		}
	}
}
