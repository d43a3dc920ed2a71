package lexer

import (
	"math/rand"
	"slices"
	"strings"
	"testing"
	"unsafe"

	"emend/api"
)

// checkText holds Tokens of a text against the model.
func checkText(t *testing.T, text string) {
	t.Helper()
	l, place, e := Tokens(text)
	want, wantPlace, wantE := modelTokens(text)
	if !slices.Equal(l, want) || place != wantPlace || e != wantE {
		t.Fatalf("Tokens(%q): %v, %d, %d, not %v, %d, %d", short(text), l, place, e, want, wantPlace, wantE)
	}
}

// short is a text, or what it begins with.
func short(s string) string { return s[:min(len(s), 200)] }

// checkError tells of a text that has another error, or has it at another place, or tokens beside it.
func checkError(t *testing.T, text string, wantPlace int, want api.Errno) {
	t.Helper()
	if l, place, e := Tokens(text); l != nil || place != wantPlace || e != want {
		t.Errorf("Tokens(%q): %d tokens, %d, %d, not %d, %d", short(text), len(l), place, e, wantPlace, want)
	}
	checkText(t, text)
}

// texts are the tokens' texts with a blank behind each; of a semicolon that is put in it is $.
func texts(l []Token) string {
	var b strings.Builder
	for _, t := range l {
		if t.Kind == KSemi && t.Text == "" {
			b.WriteByte('$')
		}
		b.WriteString(t.Text + " ")
	}
	return b.String()
}

// checkTexts tells of a text whose tokens are others than those of a list with a blank behind each.
func checkTexts(t *testing.T, text, want string) {
	t.Helper()
	l, place, e := Tokens(text)
	if got := texts(l); got != want || place != 0 || e != api.OK {
		t.Errorf("Tokens(%q): %q, %d, %d, not %q", short(text), short(got), place, e, short(want))
	}
	checkText(t, text)
}

// TestExamples: P9.1, P9.2, the chapter's examples.
func TestExamples(t *testing.T) {
	l, place, e := Tokens("x := 1 // c")
	want := []Token{{KName, "x", 0, 1}, {KMark, ":=", 2, 4}, {KInt, "1", 5, 6}, {KSemi, "", 6, 6}}
	if !slices.Equal(l, want) || place != 0 || e != api.OK {
		t.Errorf("x := 1: %v, %d, %d", l, place, e)
	}
	checkTexts(t, "a.b<=c1", "a . b <= c1 $ ")
	checkTexts(t, "if x {\n}", "if x { } $ ")
	checkTexts(t, "1.5e3 1e5 1.x 1.5e", "1.5e3 1 e5 1 . x 1.5 e $ ")
	checkError(t, "007", 0, api.ErrForm)
	checkError(t, "9223372036854775808", 0, api.ErrLong)
	checkError(t, "1.5e0001", 0, api.ErrForm)
	checkError(t, "_", 0, api.ErrName)
	checkError(t, strings.Repeat("n", 41), 0, api.ErrLong)
	if s, e := Value(`"a\n\x41"`); s != "a\nA" || e != api.OK {
		t.Errorf("Value: %q, %d", s, e)
	}
	checkError(t, `"a`, 0, api.ErrForm)
	checkError(t, "&", 0, api.ErrForm)
	checkError(t, "x\x01", 1, api.ErrForm)
}

// TestKinds: P9.1, the kinds' numbers, and a token of each.
func TestKinds(t *testing.T) {
	if got := []int{KName, KWord, KInt, KFloat, KString, KMark, KSemi}; !slices.Equal(got, []int{1, 2, 3, 4, 5, 6, 7}) {
		t.Errorf("kinds: %v", got)
	}
	l, _, _ := Tokens("\tname var 12 1.5\r\"s\" +;\n)")
	want := []Token{
		{1, "name", 1, 5}, {2, "var", 6, 9}, {3, "12", 10, 12}, {4, "1.5", 13, 16}, {5, `"s"`, 17, 20},
		{6, "+", 21, 22}, {7, ";", 22, 23}, {6, ")", 24, 25}, {7, "", 25, 25},
	}
	if !slices.Equal(l, want) {
		t.Errorf("one of each: %v", l)
	}
}

// TestNothing: P9.1, texts without a token.
func TestNothing(t *testing.T) {
	for _, text := range []string{"", " \t\r", "\n\n", "// c", "//", "//\n", " // c\r\n\t// \x00\x7f é \"\n", "/// x"} {
		checkTexts(t, text, "")
	}
}

// TestWords: P9.1, P9.3, all reserved words, and what is nearly one.
func TestWords(t *testing.T) {
	for _, word := range reservedWords {
		if l, _, _ := Tokens(word); len(l) == 0 || l[0] != (Token{KWord, word, 0, len(word)}) {
			t.Errorf("%s: %v", word, l)
		}
		for _, near := range []string{word + "1", word + "_", "_" + word, strings.ToUpper(word), word[1:], word[:len(word)-1]} {
			checkText(t, near)
			checkNames(t, near)
		}
		checkText(t, word+" "+word+"\n"+word+"."+word)
		checkNames(t, word)
	}
}

// TestMarks: P9.1, all rows of one to four bytes out of those that marks, comments and ends are made of.
func TestMarks(t *testing.T) {
	for _, row := range rows("+-*/%=!<>&|:(){},.;\n", 3) {
		checkText(t, row)
	}
	for _, row := range rows("/=!&|:\n<a", 4) {
		checkText(t, row)
	}
}

// rows are all texts of up to so many of some bytes.
func rows(some string, most int) []string {
	all := []string{""}
	for from := 0; most > 0; most-- {
		to := len(all)
		for _, s := range all[from:to] {
			for i := range len(some) {
				all = append(all, s+some[i:i+1])
			}
		}
		from = to
	}
	return all
}

// TestNumbers: P9.1, all rows of up to five bytes out of those that numbers are made of, and the edges of both kinds.
func TestNumbers(t *testing.T) {
	for _, row := range rows("01e.+-a", 5) {
		checkText(t, row)
		checkText(t, "1."+row)
	}
	digits := strings.Repeat("1", 58)
	checkTexts(t, "1."+digits, "1."+digits+" $ ")
	checkError(t, "x 1."+digits+"1", 2, api.ErrLong)
	checkError(t, "01."+digits+"1", 0, api.ErrLong)
	checkTexts(t, "1.7976931348623157e308", "1.7976931348623157e308 $ ")
	checkError(t, "1.7976931348623159e308", 0, api.ErrLong)
	checkTexts(t, "9223372036854775807", "9223372036854775807 $ ")
	checkTexts(t, "-9223372036854775807", "- 9223372036854775807 $ ")
	checkError(t, "-9223372036854775808", 1, api.ErrLong)
	checkTexts(t, "1.5e001", "1.5e001 $ ")
	checkTexts(t, "0x10", "0 x10 $ ")
	checkTexts(t, "1.5E3", "1.5 E3 $ ")
	checkTexts(t, "1.5e+x", "1.5 e + x $ ")
	checkTexts(t, "1.2.3", "1.2 . 3 $ ")
	checkTexts(t, "1_0", "1 _0 $ ")
	checkError(t, "1 01.5", 2, api.ErrForm)
}

// TestNames: P9.1, how long names may be.
func TestNames(t *testing.T) {
	long := strings.Repeat("aB_9", 10)
	checkTexts(t, long, long+" $ ")
	checkError(t, " "+long+"0", 1, api.ErrLong)
	checkError(t, "x := "+strings.Repeat("_", 41)+"\n&", 5, api.ErrLong)
	checkTexts(t, "__ _1 _a", "__ _1 _a $ ")
	checkError(t, "_ &", 0, api.ErrName)
	checkError(t, "& _", 0, api.ErrForm)
	checkError(t, "x _+1", 2, api.ErrName)
	checkError(t, "é", 0, api.ErrForm)
	checkError(t, "xé", 1, api.ErrForm)
}

// TestStrings: P9.1, P9.2, each byte alone in a string, each behind a backslash, and pairs of hex digits.
func TestStrings(t *testing.T) {
	for c := range 256 {
		b := string([]byte{byte(c)})
		for _, literal := range []string{
			`"` + b + `"`, `"\` + b + `"`, `"\x` + b + `0"`, `"\x0` + b + `"`, `"a` + b, `"` + b + `b\"`, b + `"a"`, `"a"` + b, `"\\` + b + `"`,
		} {
			checkText(t, literal)
			checkText(t, "x + "+literal+"\n)")
			checkValue(t, literal)
		}
		for d := range 256 {
			checkValue(t, `"\x`+b+string([]byte{byte(d)})+`"`)
		}
	}
	for _, row := range rows("\"\\nx0a\n", 6) {
		checkText(t, row)
		checkValue(t, row)
		checkValue(t, `"`+row+`"`)
	}
	checkTexts(t, `"// no comment" // "a"`, `"// no comment" $ `)
	checkError(t, "x \"a\n\"", 2, api.ErrForm)
	checkError(t, "'a'", 0, api.ErrForm)
	checkError(t, "`a`", 0, api.ErrForm)
}

// checkValue holds Value of a text against the model.
func checkValue(t *testing.T, literal string) {
	t.Helper()
	want, wantE := "", api.ErrForm
	if l, _, e := modelTokens(literal); e == api.OK && len(l) == 2 && l[0].Kind == KString && l[0].Text == literal {
		want, wantE = modelValue(literal), api.OK
	}
	if got, e := Value(literal); got != want || e != wantE {
		t.Fatalf("Value(%q): %q, %d, not %q, %d", literal, got, e, want, wantE)
	}
}

// TestValue: P9.2, what is not just one string, and the edges of what it may tell.
func TestValue(t *testing.T) {
	most := strings.Repeat("v", api.MaxString)
	shown := strings.Repeat(`\x00`, api.MaxString)
	for _, c := range []struct {
		literal, want string
		e             api.Errno
	}{
		{`""`, "", api.OK},
		{`"a"`, "a", api.OK},
		{"\"é\u2028\U0010ffff\"", "é\u2028\U0010ffff", api.OK},
		{`"\"\\\n\t\x00\x7f\xff"`, "\"\\\n\t\x00\x7f\xff", api.OK},
		{`"\\x41"`, `\x41`, api.OK},
		{`"` + most + `"`, most, api.OK},
		{`"` + shown + `"`, strings.Repeat("\x00", api.MaxString), api.OK},
		{`"` + most + `v"`, "", api.ErrLong},
		{`"` + shown + `\n"`, "", api.ErrLong},
		{`"` + strings.Repeat("v", 2*api.MaxText) + `"`, "", api.ErrLong},
		{`"` + strings.Repeat("v", 2*api.MaxText) + "\xff\"", "", api.ErrForm},
		{`"` + strings.Repeat("v", 2*api.MaxText), "", api.ErrForm},
		{"", "", api.ErrForm},
		{`"`, "", api.ErrForm},
		{`a`, "", api.ErrForm},
		{` "a"`, "", api.ErrForm},
		{`"a" `, "", api.ErrForm},
		{"\"a\"\n", "", api.ErrForm},
		{`"a""b"`, "", api.ErrForm},
		{`"a"//`, "", api.ErrForm},
		{`"\X41"`, "", api.ErrForm},
		{`"\x4A"`, "", api.ErrForm},
		{`"\x4"`, "", api.ErrForm},
		{`"\r"`, "", api.ErrForm},
		{`"\u0041"`, "", api.ErrForm},
		{"\"\t\"", "", api.ErrForm},
		{"\"\x7f\"", "", api.ErrForm},
		{"\"\xed\xa0\x80\"", "", api.ErrForm},
		{"\"\xff\"", "", api.ErrForm},
		{"\"\xc3", "", api.ErrForm},
	} {
		if got, e := Value(c.literal); got != c.want || e != c.e {
			t.Errorf("Value(%q): %q, %d", short(c.literal), short(got), e)
		}
	}
	checkTexts(t, `"`+most+`"`, `"`+most+`" $ `)
	checkTexts(t, `"`+shown+`"`, `"`+shown+`" $ `)
	checkError(t, `x = "`+most+`v"`, 4, api.ErrLong)
	checkError(t, `x = "`+shown+`\n"`, 4, api.ErrLong)
	checkError(t, `x = "`+most+`v`, 4, api.ErrForm)
}

// TestSemicolons: P9.1, behind each token, at each end of a line or of the text, whatever stands between.
func TestSemicolons(t *testing.T) {
	for _, token := range goodScraps() {
		for _, end := range []string{"", "\n", "\r\n", " \t", "// c", " // c\n", "\n\n", ";", ";\n", " ;", "\n;", "\n// c\n\n", "\n)", "\n+\n", "\nx"} {
			checkText(t, token+end)
			checkText(t, "x\n"+token+end)
			checkText(t, "x + "+token+end+"\n\n")
		}
	}
	checkTexts(t, "x\n\n\n", "x $ ")
	checkTexts(t, "x +\ny", "x + y $ ")
	checkTexts(t, "x;\n;\n", "x ; ; ")
	checkTexts(t, "f(\nx)\n{\n}\n", "f ( x ) $ { } $ ")
	checkTexts(t, "return\nint\nlen\nprint\npanic\nelse\n", "return $ int $ len print panic else ")
	l, _, _ := Tokens("ab \r // c\n  }  ")
	want := []Token{{KName, "ab", 0, 2}, {KSemi, "", 2, 2}, {KMark, "}", 12, 13}, {KSemi, "", 13, 13}}
	if !slices.Equal(l, want) {
		t.Errorf("places of semicolons: %v", l)
	}
}

// TestWholeText: P9.1, how long a text may be, where it is no UTF-8, and which error is the first.
func TestWholeText(t *testing.T) {
	most := strings.Repeat("x ", api.MaxText/2)
	checkTexts(t, most, most+"$ ")
	checkError(t, most+" ", api.MaxText, api.ErrLong)
	checkError(t, "\xff&"+most, api.MaxText, api.ErrLong)
	checkError(t, strings.Repeat("\n", 3*api.MaxText), api.MaxText, api.ErrLong)
	for c := range 256 {
		for d := range 256 {
			text := "& // " + string([]byte{byte(c), byte(d)})
			checkText(t, text)
			checkText(t, text+"\x80")
			checkText(t, text+"\x80\x80")
		}
	}
	checkError(t, "& _ \xff", 4, api.ErrUtf)
	checkError(t, "// \ufffd\xe2\x82", 6, api.ErrUtf)
	checkTexts(t, "x // \ufffd \u20ac", "x $ ")
	checkError(t, "x \ufffd", 2, api.ErrForm)
	checkError(t, "\ufeffx", 0, api.ErrForm)
}

// TestAgainstModel: P9.1, P9.4, rows of scraps, and texts that are spoiled at a byte.
func TestAgainstModel(t *testing.T) {
	r := rand.New(rand.NewSource(9))
	good := goodScraps()
	for range 30000 {
		checkText(t, randomText(r, 6, scraps))
		text := randomText(r, 20, good)
		checkText(t, text)
		if text != "" {
			at := r.Intn(len(text))
			checkText(t, text[:at]+string([]byte{byte(r.Intn(256))})+text[at+1:])
			checkText(t, text[:at])
			checkText(t, text[at:])
		}
	}
}

// checkNames holds Reserved, Name and Exported of a text against the model.
func checkNames(t *testing.T, s string) {
	t.Helper()
	if got := Reserved(s); got != slices.Contains(reservedWords, s) {
		t.Errorf("Reserved(%q): %t", s, got)
	}
	if got := Name(s); got != modelName(s) {
		t.Errorf("Name(%q): %t", s, got)
	}
	if got := Exported(s); got != (modelName(s) && strings.Contains("ABCDEFGHIJKLMNOPQRSTUVWXYZ", s[:1])) {
		t.Errorf("Exported(%q): %t", s, got)
	}
}

// TestNameForms: P9.3, all texts of one or two bytes, the edges of length, and what is around a name.
func TestNameForms(t *testing.T) {
	checkNames(t, "")
	for c := range 256 {
		one := string([]byte{byte(c)})
		checkNames(t, one)
		for d := range 256 {
			checkNames(t, one+string([]byte{byte(d)}))
		}
		for _, around := range []string{one + "name", "name" + one, "Na" + one + "me", "Name" + one, one + "_", "_" + one} {
			checkNames(t, around)
		}
	}
	for n := 38; n < 44; n++ {
		checkNames(t, strings.Repeat("n", n))
		checkNames(t, strings.Repeat("N", n))
		checkNames(t, strings.Repeat("_", n))
	}
	for _, s := range []string{"Type", "TYPE", "é", "É", "nÉ", " a", "a ", "a b", "a\n", "a;", "\x00", "9a", "a.b", "_A"} {
		checkNames(t, s)
	}
	for _, s := range scraps {
		checkNames(t, s)
	}
}

// TestLaws: P9.4, P9.5.
func TestLaws(t *testing.T) {
	r := rand.New(rand.NewSource(94))
	good := goodScraps()
	for range 20000 {
		text := randomText(r, 25, good)
		l, _, e := Tokens(text)
		if e != api.OK {
			continue
		}
		checkWritten(t, text, l)
		checkBetween(t, text, l)
	}
	for _, s := range scraps {
		if !Name(s) {
			continue
		}
		l, _, e := Tokens(s)
		if want := []Token{{KName, s, 0, len(s)}, {KSemi, "", len(s), len(s)}}; !slices.Equal(l, want) || e != api.OK {
			t.Errorf("Tokens(%q): %v, %d", s, l, e)
		}
	}
}

// checkWritten: P9.4, of a text's tokens written one behind the other.
func checkWritten(t *testing.T, text string, l []Token) {
	t.Helper()
	var b strings.Builder
	for _, x := range l {
		if x.Kind == KSemi && x.Text == "" {
			b.WriteByte('\n')
			continue
		}
		b.WriteString(x.Text + " ")
	}
	again, _, e := Tokens(b.String())
	same := func(x, y Token) bool { return x.Kind == y.Kind && x.Text == y.Text }
	if e != api.OK || !slices.EqualFunc(l, again, same) {
		t.Fatalf("%q: the tokens of %q are %v, %d", text, b.String(), again, e)
	}
}

// checkBetween: P9.4, of a text's tokens in it.
func checkBetween(t *testing.T, text string, l []Token) {
	t.Helper()
	end := 0
	for _, x := range append(slices.Clone(l), Token{From: len(text), To: len(text)}) {
		if x.From < end || x.To < x.From || x.To > len(text) || text[x.From:x.To] != x.Text {
			t.Fatalf("%q: %v does not stand there", text, x)
		}
		for _, line := range strings.Split(text[end:x.From], "\n") {
			if before, _, _ := strings.Cut(line, "//"); strings.Trim(before, " \t\r") != "" {
				t.Fatalf("%q: %q stands between tokens", text, line)
			}
		}
		end = x.To
	}
}

// TestNewMemory: what is answered shares no memory with what was handed in.
func TestNewMemory(t *testing.T) {
	b := []byte("name := \"value\" + 12 // c")
	text := unsafe.String(unsafe.SliceData(b), len(b))
	l, _, _ := Tokens(text)
	value, _ := Value(text[8:15])
	clear(b)
	if got := texts(l); got != "name := \"value\" + 12 $ " || value != "value" {
		t.Errorf("tokens of a text that is spoiled later: %q, %q", got, value)
	}
	other, _, _ := Tokens("name := \"value\" + 12 // c")
	l[0].Text = "spoiled"
	if got := texts(other); got != "name := \"value\" + 12 $ " {
		t.Errorf("tokens of another call: %q", got)
	}
}
