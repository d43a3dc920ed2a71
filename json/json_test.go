package json

import (
	"math/rand"
	"slices"
	"strings"
	"testing"

	"emend/api"
	"emend/jtext"
)

// sayIfWrongParse holds Parse of a text against the model.
func sayIfWrongParse(t *testing.T, s string) {
	t.Helper()
	v, e := Parse(s)
	want, wantE := modelParse(s)
	if e != wantE || dump(v) != dump(want) {
		t.Errorf("Parse(%q): %s, %d, not %s, %d", s, dump(v), e, dump(want), wantE)
	}
}

// TestCheckExamples: P4.1, each fault by itself, and values without one.
func TestCheckExamples(t *testing.T) {
	one := []api.JValue{null}
	for _, c := range []struct {
		v api.JValue
		e api.Errno
	}{
		{null, api.OK},
		{no, api.OK},
		{yes, api.OK},
		{number("-1.5e3"), api.OK},
		{number("-0"), api.OK},
		{text(""), api.OK},
		{text("\x00\u00e9\U0001f600\ufffd"), api.OK},
		{empty, api.OK},
		{bare, api.OK},
		{api.JValue{Kind: api.JObject, Keys: []string{}, Items: []api.JValue{}}, api.OK},
		{api.JValue{Kind: api.JNull, Keys: []string{}, Items: []api.JValue{}}, api.OK},
		{objectOf(field{"", null}, field{"a", array(yes, bare)}), api.OK},
		{objectOf(field{"a", objectOf(field{"a", null})}), api.OK},
		{array(objectOf(field{"a", null}), objectOf(field{"a", null})), api.OK},
		{api.JValue{Kind: -1}, api.ErrForm},
		{api.JValue{Kind: 7}, api.ErrForm},
		{api.JValue{Kind: 1 << 40}, api.ErrForm},
		{api.JValue{Kind: api.JNull, Str: "null"}, api.ErrForm},
		{api.JValue{Kind: api.JFalse, Str: "false"}, api.ErrForm},
		{api.JValue{Kind: api.JTrue, Str: "true"}, api.ErrForm},
		{api.JValue{Kind: api.JNull, Keys: []string{""}}, api.ErrForm},
		{api.JValue{Kind: api.JFalse, Keys: []string{""}}, api.ErrForm},
		{api.JValue{Kind: api.JTrue, Items: one}, api.ErrForm},
		{api.JValue{Kind: api.JNumber, Str: "1", Keys: []string{""}}, api.ErrForm},
		{api.JValue{Kind: api.JNumber, Str: "1", Items: one}, api.ErrForm},
		{api.JValue{Kind: api.JString, Keys: []string{""}}, api.ErrForm},
		{api.JValue{Kind: api.JString, Items: one}, api.ErrForm},
		{api.JValue{Kind: api.JArray, Str: "a"}, api.ErrForm},
		{api.JValue{Kind: api.JArray, Keys: []string{"a"}, Items: one}, api.ErrForm},
		{api.JValue{Kind: api.JObject, Str: "a"}, api.ErrForm},
		{api.JValue{Kind: api.JObject, Keys: []string{"a"}}, api.ErrForm},
		{api.JValue{Kind: api.JObject, Items: one}, api.ErrForm},
		{api.JValue{Kind: api.JObject, Keys: []string{"a", "b"}, Items: one}, api.ErrForm},
		{number(""), api.ErrForm},
		{number("01"), api.ErrForm},
		{number("1."), api.ErrForm},
		{number("+1"), api.ErrForm},
		{number("-"), api.ErrForm},
		{number(" 1"), api.ErrForm},
		{number("1\n"), api.ErrForm},
		{number("1 2"), api.ErrForm},
		{number("true"), api.ErrForm},
		{number(`"1"`), api.ErrForm},
		{number("["), api.ErrForm},
		{number("\xff"), api.ErrForm},
		{number("NaN"), api.ErrForm},
		{text("\xff"), api.ErrUtf},
		{text("a\xed\xa0\x80"), api.ErrUtf},
		{objectOf(field{"\xff", null}), api.ErrUtf},
		{objectOf(field{"a", null}, field{"b", null}, field{"a", null}), api.ErrTwice},
		{objectOf(field{"", null}, field{"", null}), api.ErrTwice},
		{array(null, number("01")), api.ErrForm},
		{objectOf(field{"a", array(text("\xff"))}), api.ErrUtf},
	} {
		if e := Check(c.v); e != c.e {
			t.Errorf("Check(%s): %d, not %d", dump(c.v), e, c.e)
		}
	}
}

// TestCheckOrder: P4.1, of several faults the first that is found is told.
func TestCheckOrder(t *testing.T) {
	bad, form := text("\xff"), number("01")
	twice := objectOf(field{"a", null}, field{"a", null})
	for _, c := range []struct {
		v api.JValue
		e api.Errno
	}{
		{api.JValue{Kind: api.JString, Str: "\xff", Keys: []string{"a"}}, api.ErrForm},
		{api.JValue{Kind: api.JArray, Str: "a", Items: []api.JValue{bad}}, api.ErrForm},
		{api.JValue{Kind: api.JObject, Keys: []string{"\xff", "a", "a"}, Items: []api.JValue{bad}}, api.ErrForm},
		{array(bad, form), api.ErrUtf},
		{array(form, bad), api.ErrForm},
		{array(twice, bad), api.ErrTwice},
		{array(array(bad), form), api.ErrUtf},
		{array(array(null, array(form)), twice, bad), api.ErrForm},
		{objectOf(field{"\xff", form}), api.ErrUtf},
		{objectOf(field{"a", form}, field{"\xff", null}), api.ErrForm},
		{objectOf(field{"a", bad}, field{"a", null}), api.ErrUtf},
		{objectOf(field{"a", null}, field{"a", bad}), api.ErrTwice},
		{objectOf(field{"a", null}, field{"a", form}, field{"\xff", null}), api.ErrTwice},
		{objectOf(field{"\xff", null}, field{"\xff", null}), api.ErrUtf},
		{objectOf(field{"a", twice}, field{"b", form}), api.ErrTwice},
		{objectOf(field{"a", null}, field{"b", form}, field{"a", null}), api.ErrForm},
	} {
		if e := Check(c.v); e != c.e {
			t.Errorf("Check(%s): %d, not %d", dump(c.v), e, c.e)
		}
	}
}

// TestCheckDepth: P4.1, ErrLong of a depth above 64, ahead of all else, also of what is no value.
func TestCheckDepth(t *testing.T) {
	deep := nest(null, 100)
	uneven := api.JValue{Kind: api.JObject, Items: []api.JValue{nest(null, 64)}}
	for _, c := range []struct {
		v api.JValue
		e api.Errno
	}{
		{nest(null, 64), api.OK},
		{nest(null, 65), api.ErrLong},
		{nest(empty, 63), api.OK},
		{nest(empty, 64), api.ErrLong},
		{nest(null, 64, "a"), api.OK},
		{nest(null, 65, "a"), api.ErrLong},
		{nest(bare, 63, "a"), api.OK},
		{nest(bare, 64, "a"), api.ErrLong},
		{nest(nest(null, 32), 32, "a"), api.OK},
		{nest(nest(null, 32), 33, "a"), api.ErrLong},
		{array(null, nest(null, 64), null), api.ErrLong},
		{array(number("01"), nest(null, 64)), api.ErrLong},
		{nest(text("\xff"), 65), api.ErrLong},
		{nest(text("\xff"), 64), api.ErrUtf},
		{uneven, api.ErrLong},
		{api.JValue{Kind: api.JArray, Str: "a", Items: []api.JValue{nest(null, 64)}}, api.ErrLong},
		{api.JValue{Kind: api.JString, Items: []api.JValue{deep}}, api.ErrForm},
		{api.JValue{Kind: api.JNull, Items: []api.JValue{deep}}, api.ErrForm},
		{api.JValue{Kind: 7, Items: []api.JValue{deep}}, api.ErrForm},
		{nest(api.JValue{Kind: api.JNumber, Str: "1", Items: []api.JValue{deep}}, 64), api.ErrForm},
		{nest(null, 1<<16), api.ErrLong},
		{nest(null, 1<<16, "a"), api.ErrLong},
	} {
		if e := Check(c.v); e != c.e {
			t.Errorf("Check of the depth %d: %d, not %d", modelDepth(c.v), e, c.e)
		}
	}
}

// TestCheck: P4.1, Check of values of all sorts.
func TestCheck(t *testing.T) {
	told := map[api.Errno]int{}
	for _, v := range slices.Concat(fines(), spoiled()) {
		want := modelCheck(v)
		told[want]++
		if e := Check(v); e != want {
			t.Errorf("Check(%s): %d, not %d", dump(v), e, want)
		}
	}
	for _, e := range []api.Errno{api.OK, api.ErrLong, api.ErrForm, api.ErrUtf, api.ErrTwice} {
		if told[e] < 200 {
			t.Errorf("%d values of the error %d are too few", told[e], e)
		}
	}
}

// TestParseExamples: P4.2, the chapter's examples, and what is like them.
func TestParseExamples(t *testing.T) {
	for _, c := range []struct {
		s string
		v api.JValue
	}{
		{`{"b":[1,true],"a":null}`, objectOf(field{"b", array(number("1"), yes)}, field{"a", null})},
		{"null", null},
		{"false", no},
		{"true", yes},
		{" \t\r\n1.50E+03 ", number("1.50E+03")},
		{"-0", number("-0")},
		{`""`, text("")},
		{`"a\u00e9\n\ud83d\ude00"`, text("a\u00e9\n\U0001f600")},
		{`"["`, text("[")},
		{`["]","true",1,"1"]`, array(text("]"), text("true"), number("1"), text("1"))},
		{"[]", empty},
		{"{}", bare},
		{"[[],{},[[]]]", array(empty, bare, array(empty))},
		{`{"":{"":{}},"a":[{"a":0},{"a":0}]}`, objectOf(field{"", objectOf(field{"", bare})}, field{"a", array(objectOf(field{"a", number("0")}), objectOf(field{"a", number("0")}))})},
		{"{\"\\u0061\" :\n0 ,\t\":\":\",\"}", objectOf(field{"a", number("0")}, field{":", text(",")})},
	} {
		if v, e := Parse(c.s); e != api.OK || dump(v) != dump(c.v) {
			t.Errorf("Parse(%q): %s, %d, not %s", c.s, dump(v), e, dump(c.v))
		}
	}
}

// TestParseFaults: P4.2, the chapter's examples of what is wrong, and what is like them.
func TestParseFaults(t *testing.T) {
	for _, c := range []struct {
		s string
		e api.Errno
	}{
		{"[1,]", api.ErrForm},
		{"", api.ErrForm},
		{" ", api.ErrForm},
		{"1 2", api.ErrForm},
		{`{"a" 1}`, api.ErrForm},
		{"tru", api.ErrForm},
		{"{1:2}", api.ErrForm},
		{"[ [", api.ErrForm},
		{"01", api.ErrForm},
		{"[01]", api.ErrForm},
		{"[", api.ErrForm},
		{"]", api.ErrForm},
		{"{", api.ErrForm},
		{"}", api.ErrForm},
		{",", api.ErrForm},
		{":", api.ErrForm},
		{"[}", api.ErrForm},
		{"{]", api.ErrForm},
		{"[1}", api.ErrForm},
		{`{"a":1]`, api.ErrForm},
		{"[,]", api.ErrForm},
		{"[,1]", api.ErrForm},
		{"[1,,2]", api.ErrForm},
		{"[1 2]", api.ErrForm},
		{"[1", api.ErrForm},
		{"[1,", api.ErrForm},
		{"[1:2]", api.ErrForm},
		{`["a":1]`, api.ErrForm},
		{"[]]", api.ErrForm},
		{"[],", api.ErrForm},
		{"[][]", api.ErrForm},
		{"{,}", api.ErrForm},
		{`{"a"}`, api.ErrForm},
		{`{"a":}`, api.ErrForm},
		{`{"a":1,}`, api.ErrForm},
		{`{"a":1`, api.ErrForm},
		{`{"a":1,`, api.ErrForm},
		{`{"a":`, api.ErrForm},
		{`{"a"`, api.ErrForm},
		{`{"a",1}`, api.ErrForm},
		{`{"a"::1}`, api.ErrForm},
		{`{"a":1:2}`, api.ErrForm},
		{`{"a":1 "b":2}`, api.ErrForm},
		{`{:1}`, api.ErrForm},
		{`{null:1}`, api.ErrForm},
		{`{[]:1}`, api.ErrForm},
		{`{["]:1}`, api.ErrForm},
		{`{"a":1}{"a":1}`, api.ErrForm},
		{`"a" "b"`, api.ErrForm},
		{`{"a":1,"a":2}`, api.ErrTwice},
		{`{"a":1,"b":2,"a":1}`, api.ErrTwice},
		{`{"a":1,"\u0061":2}`, api.ErrTwice},
		{`{"":1,"":2}`, api.ErrTwice},
		{`[0,{"b":[{"a":1,"a":2}]}]`, api.ErrTwice},
		{`{"a":{"b":1,"b":1},"c":0}`, api.ErrTwice},
		// ErrForm is named ahead of ErrTwice, and Tokens' errors ahead of both.
		{`{"a":1,"a":2}1`, api.ErrForm},
		{`{"a":1,"a":}`, api.ErrForm},
		{`[{"a":1,"a":2}`, api.ErrForm},
		{`{"a":1,"a"`, api.ErrForm},
		{"[1,]\xff", api.ErrUtf},
		{"{\"a\":1,\"a\":2}\xff", api.ErrUtf},
		{"\xff", api.ErrUtf},
		{"\"\xed\xa0\x80\"", api.ErrUtf},
		{`"\ud800"`, api.ErrForm},
	} {
		if v, e := Parse(c.s); e != c.e || dump(v) != dump(null) {
			t.Errorf("Parse(%q): %s, %d, not %d", c.s, dump(v), e, c.e)
		}
	}
}

// TestParseDepth: P4.2, ErrLong, if more than 64 marks are open, behind Tokens' errors and ahead of the others.
func TestParseDepth(t *testing.T) {
	open := func(n int) string { return strings.Repeat("[", n) }
	shut := func(n int) string { return strings.Repeat("]", n) }
	for _, c := range []struct {
		s string
		e api.Errno
	}{
		{open(64) + shut(64), api.OK},
		{open(65) + shut(65), api.ErrLong},
		{open(64), api.ErrForm},
		{open(65), api.ErrLong},
		{open(32) + strings.Repeat(`{"a":`, 32) + "1" + strings.Repeat("}", 32) + shut(32), api.OK},
		{open(32) + strings.Repeat(`{"a":`, 33) + "1" + strings.Repeat("}", 33) + shut(32), api.ErrLong},
		{strings.Repeat("{", 64), api.ErrForm},
		{strings.Repeat("{", 65), api.ErrLong},
		{strings.Repeat("[{", 32) + "[", api.ErrLong},
		{"1 " + open(65), api.ErrLong},
		{shut(9) + open(64), api.ErrForm}, // what closes nothing makes nothing less
		{shut(9) + open(65), api.ErrLong},
		{strings.Repeat("}", 9) + open(65), api.ErrLong},
		{"]" + strings.Repeat("}", 9) + open(64), api.ErrForm},
		{open(64) + "}" + "[", api.ErrForm}, // either mark makes one less
		{open(64) + "]" + "[[", api.ErrLong},
		{strings.Repeat("[]", 99), api.ErrForm},
		{"[" + strings.Repeat("[],", 99) + "[]]", api.OK},
		{`["` + open(99) + `"]`, api.OK},
		{strings.Repeat(`"[" `, 65), api.ErrForm},
		{open(64) + `"]"` + "[", api.ErrLong},
		{`{"a":1,"a":` + open(64), api.ErrLong},
		{`{"a":1,"a":` + open(63), api.ErrForm},
		{open(65) + "\xff", api.ErrUtf},
		{open(65) + "tru", api.ErrForm},
		{open(1 << 16), api.ErrLong},
		{strings.Repeat(`{"a":`, 1<<16), api.ErrLong},
	} {
		v, e := Parse(c.s)
		if e != c.e || e != api.OK && dump(v) != dump(null) {
			t.Errorf("Parse(%.80q): %d, not %d", c.s, e, c.e)
		}
		if e == api.OK && modelDepth(v) > 64 {
			t.Errorf("Parse(%.80q): the depth %d", c.s, modelDepth(v))
		}
	}
	if v, e := Parse(open(64) + shut(64)); e != api.OK || dump(v) != dump(nest(empty, 63)) || modelDepth(v) != 64 {
		t.Errorf("Parse of 64 marks: %s, %d", dump(v), e)
	}
}

// TestParseOfShortRows: P4.2, Parse of all short rows of tokens.
func TestParseOfShortRows(t *testing.T) {
	last := []string{""}
	for range 6 {
		var next []string
		for _, s := range last {
			for _, one := range []string{"[", "]", "{", "}", ",", ":", `"a"`, "1"} {
				sayIfWrongParse(t, s+one)
				next = append(next, s+one)
			}
		}
		last = next
	}
}

// TestParse: P4.2, Parse of texts of values in which some tokens were taken out, put in, or changed.
func TestParse(t *testing.T) {
	told := map[api.Errno]int{}
	for _, s := range changed() {
		sayIfWrongParse(t, s)
		_, e := modelParse(s)
		told[e]++
	}
	for _, e := range []api.Errno{api.OK, api.ErrForm, api.ErrTwice, api.ErrUtf} {
		if told[e] < 50 {
			t.Errorf("%d texts of the error %d are too few", told[e], e)
		}
	}
}

// TestPutExamples: P4.2, the chapter's examples of Put, and what is like them.
func TestPutExamples(t *testing.T) {
	for _, c := range []struct {
		v api.JValue
		s string
		e api.Errno
	}{
		{objectOf(field{"b", array(number("1"), yes)}, field{"a", null}), `{"b":[1,true],"a":null}`, api.OK},
		{null, "null", api.OK},
		{no, "false", api.OK},
		{yes, "true", api.OK},
		{number("-1.50E+03"), "-1.50E+03", api.OK},
		{text("a\n\x01\"/\u00e9"), "\"a\\n\\u0001\\\"/\u00e9\"", api.OK},
		{empty, "[]", api.OK},
		{bare, "{}", api.OK},
		{array(empty, bare, text("")), `[[],{},""]`, api.OK},
		{array(null), "[null]", api.OK},
		{objectOf(field{"\"\n", array(no, no)}, field{"", bare}), `{"\"\n":[false,false],"":{}}`, api.OK},
		{nest(null, 64), strings.Repeat("[", 64) + "null" + strings.Repeat("]", 64), api.OK},
		{number("01"), "", api.ErrForm},
		{text("\xff"), "", api.ErrUtf},
		{api.JValue{Kind: api.JObject, Keys: []string{"a"}}, "", api.ErrForm},
		{nest(null, 65), "", api.ErrLong},
		{array(number("1"), objectOf(field{"a", null}, field{"a", null})), "", api.ErrTwice},
		{api.JValue{Kind: 7}, "", api.ErrForm},
		{number(" 1"), "", api.ErrForm},
	} {
		if s, e := Put(c.v); s != c.s || e != c.e {
			t.Errorf("Put(%s): %q, %d, not %q, %d", dump(c.v), s, e, c.s, c.e)
		}
	}
}

// TestPut: P4.2, Put of values of all sorts.
func TestPut(t *testing.T) {
	for _, v := range slices.Concat(fines(), spoiled()) {
		want, wantE := "", modelCheck(v)
		if wantE == api.OK {
			want = modelText(v)
		}
		if s, e := Put(v); s != want || e != wantE {
			t.Errorf("Put(%s): %q, %d, not %q, %d", dump(v), s, e, want, wantE)
		}
	}
}

// TestField: P4.3, the chapter's examples of Field, and what is like them.
func TestField(t *testing.T) {
	first := objectOf(field{"b", array(number("1"), yes)}, field{"a", null})
	twice := objectOf(field{"a", number("1")}, field{"b", no}, field{"a", number("2")})
	short := api.JValue{Kind: api.JObject, Keys: []string{"a", "b", "c"}, Items: []api.JValue{yes, no}}
	odd := api.JValue{Kind: 9, Str: "\xff", Keys: []string{"k"}, Items: []api.JValue{{Kind: -1, Str: "x", Items: []api.JValue{yes}}}}
	for _, c := range []struct {
		v    api.JValue
		key  string
		want api.JValue
		ok   bool
	}{
		{first, "b", array(number("1"), yes), true},
		{first, "c", null, false},
		{first, "a", null, true},
		{first, "", null, false},
		{bare, "a", null, false},
		{objectOf(field{"", yes}), "", yes, true},
		{objectOf(field{"\xff", yes}), "\xff", yes, true},
		{objectOf(field{"\xfe", yes}), "\xff", null, false},
		{objectOf(field{"A", yes}), "a", null, false},
		{twice, "a", number("1"), true},
		{short, "a", yes, true},
		{short, "b", no, true},
		{short, "c", null, false},
		{api.JValue{Kind: api.JObject, Keys: []string{"a", "b", "a"}, Items: []api.JValue{}}, "a", null, false},
		{api.JValue{Kind: api.JObject, Keys: []string{"a"}, Items: []api.JValue{yes, no}}, "a", yes, true},
		{api.JValue{Kind: api.JObject, Str: "s", Keys: []string{"a"}, Items: []api.JValue{yes}}, "a", yes, true},
		{objectOf(field{"a", odd}), "a", odd, true},
		{objectOf(field{"a", nest(yes, 99)}), "a", nest(yes, 99), true},
		{array(yes), "", null, false},
		{api.JValue{Kind: api.JArray, Keys: []string{"a"}, Items: []api.JValue{yes}}, "a", null, false},
		{api.JValue{Kind: api.JNull, Keys: []string{"a"}, Items: []api.JValue{yes}}, "a", null, false},
		{api.JValue{Kind: 7, Keys: []string{"a"}, Items: []api.JValue{yes}}, "a", null, false},
		{text("a"), "a", null, false},
	} {
		if v, ok := Field(c.v, c.key); ok != c.ok || dump(v) != dump(c.want) {
			t.Errorf("Field(%s, %q): %s, %t, not %s, %t", dump(c.v), c.key, dump(v), ok, dump(c.want), c.ok)
		}
	}
}

// TestInt: P4.3, the chapter's examples of Int, and what is like them.
func TestInt(t *testing.T) {
	for _, c := range []struct {
		v    api.JValue
		want int64
		ok   bool
	}{
		{number("-7"), -7, true},
		{number("1.0"), 0, false},
		{number("9223372036854775808"), 0, false},
		{number("-0"), 0, true},
		{number("0"), 0, true},
		{number("9223372036854775807"), 9223372036854775807, true},
		{number("-9223372036854775808"), -9223372036854775808, true},
		{number("-9223372036854775809"), 0, false},
		{number("18446744073709551616"), 0, false},
		{number(strings.Repeat("9", 5000)), 0, false},
		{number("1e2"), 0, false},
		{number("1E0"), 0, false},
		{number("10"), 10, true},
		{number("01"), 0, false},
		{number("-01"), 0, false},
		{number("00"), 0, false},
		{number("+1"), 0, false},
		{number("--1"), 0, false},
		{number("1-"), 0, false},
		{number("-"), 0, false},
		{number(""), 0, false},
		{number(" 1"), 0, false},
		{number("1 "), 0, false},
		{number("1_0"), 0, false},
		{number("0x1"), 0, false},
		{number("\u0661"), 0, false}, // a digit, but of other ones
		{number("1a2"), 0, false},
		{text("7"), 0, false},
		{null, 0, false},
		{api.JValue{Kind: api.JNull, Str: "7"}, 0, false},
		{api.JValue{Kind: api.JArray, Str: "7"}, 0, false},
		{array(number("7")), 0, false},
		{api.JValue{Kind: 8, Str: "7"}, 0, false},
	} {
		if n, ok := Int(c.v); n != c.want || ok != c.ok {
			t.Errorf("Int(%s): %d, %t, not %d, %t", dump(c.v), n, ok, c.want, c.ok)
		}
	}
}

// TestIntOfShortTexts: P4.3, Int of all short texts of what numbers are made of.
func TestIntOfShortTexts(t *testing.T) {
	last := []string{""}
	for range 4 {
		var next []string
		for _, s := range last {
			for _, c := range []string{"-", "+", "0", "7", "9", ".", "e", " "} {
				next = append(next, s+c)
			}
		}
		last = next
		for _, s := range last {
			want, wantOk := modelInt(s)
			if n, ok := Int(number(s)); n != want || ok != wantOk {
				t.Errorf("Int of %q: %d, %t, not %d, %t", s, n, ok, want, wantOk)
			}
		}
	}
}

// TestSameExamples: P4.3, the chapter's examples of Same, and what is like them.
func TestSameExamples(t *testing.T) {
	ab := objectOf(field{"a", number("1")}, field{"b", number("2")})
	for _, c := range []struct {
		a, b api.JValue
		want bool
	}{
		{ab, objectOf(field{"b", number("2")}, field{"a", number("1")}), true},
		{number("1"), number("1.0"), false},
		{number("1e5"), number("1E5"), false},
		{number("0"), number("-0"), false},
		{number("1"), text("1"), false},
		{ab, objectOf(field{"a", number("2")}, field{"b", number("1")}), false},
		{ab, objectOf(field{"a", number("1")}), false},
		{objectOf(field{"a", number("1")}), ab, false},
		{ab, objectOf(field{"a", number("1")}, field{"c", number("2")}), false},
		{objectOf(field{"a", yes}, field{"b", yes}), objectOf(field{"a", yes}, field{"c", yes}), false},
		{objectOf(field{"a", yes}, field{"c", yes}), objectOf(field{"a", yes}, field{"b", yes}), false},
		{ab, array(number("1"), number("2")), false},
		{array(yes, no), array(no, yes), false},
		{array(yes, no), array(yes), false},
		{array(yes), array(yes, no), false},
		{array(yes, no), array(yes, no), true},
		{empty, bare, false},
		{empty, array(empty), false},
		{empty, empty, true},
		{bare, api.JValue{Kind: api.JObject, Keys: []string{}, Items: []api.JValue{}}, true},
		{null, no, false},
		{yes, no, false},
		{text("a"), text("a"), true},
		{text("\u00e9"), text("e\u0301"), false},
		{array(ab, ab), array(ab, objectOf(field{"b", number("2")}, field{"a", number("1")})), true},
		{objectOf(field{"x", ab}), objectOf(field{"x", objectOf(field{"b", number("2")}, field{"a", number("1")})}), true},
		{nest(null, 64), nest(null, 64), true},
		// What may not be is not even the same as itself.
		{nest(null, 65), nest(null, 65), false},
		{text("\xff"), text("\xff"), false},
		{number("01"), number("01"), false},
		{api.JValue{Kind: 7}, api.JValue{Kind: 7}, false},
		{objectOf(field{"a", yes}, field{"a", yes}), objectOf(field{"a", yes}, field{"a", yes}), false},
		{objectOf(field{"a", yes}, field{"b", yes}), objectOf(field{"a", yes}, field{"a", yes}), false},
		{objectOf(field{"a", yes}, field{"a", yes}), objectOf(field{"a", yes}, field{"b", yes}), false},
		{api.JValue{Kind: api.JNull, Str: "a"}, null, false},
		{null, api.JValue{Kind: api.JNull, Items: []api.JValue{null}}, false},
		{api.JValue{Kind: api.JArray, Keys: []string{"a"}}, empty, false},
	} {
		if got := Same(c.a, c.b); got != c.want {
			t.Errorf("Same(%s, %s): %t", dump(c.a), dump(c.b), got)
		}
	}
}

// TestSame: P4.3 and P4.5, Same does not ask for the order of keys, nor which of both is first.
func TestSame(t *testing.T) {
	r := rand.New(rand.NewSource(44))
	told := map[bool]int{}
	for _, a := range slices.Concat(fines(), spoiled()) {
		b := shuffled(r, a)
		want := Check(a) == api.OK
		if Same(a, b) != want || Same(b, a) != want || Same(a, a) != want {
			t.Errorf("Same(%s, %s): not %t", dump(a), dump(b), want)
		}
		spoil(r, &b)
		want = modelSame(a, b)
		told[want]++
		if Same(a, b) != want || Same(b, a) != want {
			t.Errorf("Same(%s, %s): not %t", dump(a), dump(b), want)
		}
	}
	if told[true] < 200 || told[false] < 200 {
		t.Errorf("%v are too few", told)
	}
	few := fines()[:60]
	for _, a := range few {
		for _, b := range few {
			if want := modelSame(a, b); Same(a, b) != want {
				t.Errorf("Same(%s, %s): not %t", dump(a), dump(b), want)
			}
		}
	}
}

// TestParseOfPut: P4.4, Parse of Put of a value that may be is that value, with blanks between the tokens, too.
func TestParseOfPut(t *testing.T) {
	for i, v := range fines() {
		s, e := Put(v)
		if e != api.OK {
			t.Fatalf("Put(%s): %d", dump(v), e)
		}
		blanks := []string{" ", "\t", "\n", "\r", "\r\n \t"}[i%5]
		l, _, _ := jtext.Tokens(s)
		spaced := blanks
		for _, one := range l {
			spaced += s[one.From:one.To] + blanks
		}
		for _, one := range []string{s, spaced} {
			if w, e := Parse(one); e != api.OK || dump(w) != dump(v) {
				t.Errorf("Parse(%q): %s, %d, not %s", one, dump(w), e, dump(v))
			}
		}
	}
}

// TestPutOfParse: P4.4 and P4.5, what Parse tells may be, and Put of it is parsed as the same.
func TestPutOfParse(t *testing.T) {
	held := 0
	for _, s := range changed() {
		v, e := Parse(s)
		if e != api.OK {
			continue
		}
		held++
		again, e := Put(v)
		w, e2 := Parse(again)
		if Check(v) != api.OK || e != api.OK || e2 != api.OK || !Same(v, w) || dump(v) != dump(w) {
			t.Errorf("Parse(%q): %s, put as %q", s, dump(v), again)
		}
	}
	if held < 1000 {
		t.Errorf("%d texts of values are too few", held)
	}
}

// scratch writes over all that a value's lists hold, and over what room they have behind that.
func scratch(v *api.JValue) {
	for i := range v.Items {
		scratch(&v.Items[i])
	}
	for i := range v.Keys[:cap(v.Keys)] {
		v.Keys[:cap(v.Keys)][i] = "scratched"
	}
	for i := range v.Items[:cap(v.Items)] {
		v.Items[:cap(v.Items)][i] = api.JValue{Kind: 99, Str: "scratched"}
	}
}

// TestFieldIsNew: P4.6, what Field answers is new memory: neither is changed by what becomes of the other one.
func TestFieldIsNew(t *testing.T) {
	for _, item := range slices.Concat(fines(), spoiled()[:3000]) {
		v := objectOf(field{"first", null}, field{"key", item}, field{"last", item})
		before, want := dump(v), dump(item)
		got, ok := Field(v, "key")
		if !ok || dump(got) != want || dump(v) != before {
			t.Fatalf("Field of %s: %s", before, dump(got))
		}
		scratch(&got)
		if dump(v) != before {
			t.Fatalf("what Field answered of %s shares its memory", before)
		}
		got, _ = Field(v, "key")
		scratch(&v)
		if dump(got) != want {
			t.Fatalf("what Field answered of %s shares memory that is handed in", before)
		}
	}
}

// lists are all lists of Items and of Keys within a value.
func lists(v api.JValue) (items [][]api.JValue, keys [][]string) {
	items, keys = [][]api.JValue{v.Items}, [][]string{v.Keys}
	for _, item := range v.Items {
		i, k := lists(item)
		items, keys = append(items, i...), append(keys, k...)
	}
	return items, keys
}

// TestListsAreApart: P4.6, no two lists of what Parse or Field answers share memory.
func TestListsAreApart(t *testing.T) {
	s := `{"a":[1,[2,3,[4]],{"b":[],"c":[5,6,7],"d":{"e":8}}],"f":[9],"g":[[],[0]]}`
	parsed, _ := Parse(s)
	inner, _ := Field(objectOf(field{"k", parsed}), "k")
	for _, v := range []api.JValue{parsed, inner} {
		before := dump(v)
		items, keys := lists(v)
		for _, l := range items {
			_ = append(l, number("99"))
		}
		for _, l := range keys {
			_ = append(l, "scratched")
		}
		if dump(v) != before {
			t.Errorf("lists share their room: %s, not %s", dump(v), before)
		}
		for _, l := range items {
			for i := range l {
				was := l[i].Kind
				l[i].Kind += 100
				if now := strings.Count(dump(v), "<10"); now != 1 {
					t.Errorf("an Item stands at %d places of %s", now, dump(v))
				}
				l[i].Kind = was
			}
		}
	}
}

// TestNothingIsChanged: P4.6, no call changes what is handed in, and the same is answered again.
func TestNothingIsChanged(t *testing.T) {
	l := slices.Concat(fines()[:500], spoiled()[:3000])
	for i, a := range l {
		b := l[(i+1)%len(l)]
		before := dumps(a, b)
		for range 2 {
			e := Check(a)
			if e != modelCheck(a) {
				t.Fatalf("Check(%s): %d", before[0], e)
			}
			Put(a)
			Field(a, "a")
			Int(a)
			if got := Same(a, b); got != modelSame(a, b) {
				t.Fatalf("Same(%s, %s): %t", before[0], before[1], got)
			}
			if !slices.Equal(dumps(a, b), before) {
				t.Fatalf("%v became %v", before, dumps(a, b))
			}
		}
	}
}

// TestNoPanics: P4.6, every call ends and none panics, of wide, deep and wild values and texts.
func TestNoPanics(t *testing.T) {
	const many = 1 << 16
	wide := array(make([]api.JValue, many)...)
	deep := nest(null, many)
	wild := api.JValue{Kind: api.JString, Str: "\xff", Keys: make([]string, 9), Items: []api.JValue{deep, wide}}
	mixed := objectOf(field{"a", wild}, field{"\xff", deep})
	l := []api.JValue{wide, deep, wild, mixed, nest(wild, 40, "a"), {Kind: -1 << 63}, {Kind: 1<<63 - 1}}
	for _, v := range l {
		e := Check(v)
		s, e2 := Put(v)
		if e != e2 || e != api.OK && s != "" {
			t.Errorf("Check: %d, but Put: %d", e, e2)
		}
		for _, w := range l {
			if Same(v, w) != (e == api.OK && v.Kind == w.Kind && len(v.Items) == len(w.Items)) {
				t.Error("a value is the same as one that it is not")
			}
		}
		Int(v)
		Field(v, "\xff")
	}
	if v, ok := Field(mixed, "\xff"); !ok || Check(v) != api.ErrLong {
		t.Error("Field of a deep value")
	}
	for _, s := range []string{strings.Repeat("[", many), strings.Repeat("{", many), strings.Repeat(",", many), "[" + strings.Repeat("0,", many) + "0]", strings.Repeat("\xff", many)} {
		v, e := Parse(s)
		if want, wantE := modelParse(s); e != wantE || len(v.Items) != len(want.Items) {
			t.Errorf("Parse(%.20q): %d, not %d", s, e, wantE)
		}
	}
}

// TestManyKeys: every call ends soon of an object of many keys, too.
func TestManyKeys(t *testing.T) {
	const many = 1 << 15
	var v, back api.JValue
	v.Kind, back.Kind = api.JObject, api.JObject
	for n := range many {
		v.Keys = append(v.Keys, string(rune(n)))
		v.Items = append(v.Items, number("1"))
	}
	back.Items = v.Items
	back.Keys = slices.Clone(v.Keys)
	slices.Reverse(back.Keys)
	s, e := Put(v)
	w, e2 := Parse(s)
	if e != api.OK || e2 != api.OK || !Same(v, w) || !Same(back, w) {
		t.Errorf("an object of many keys: %d, %d", e, e2)
	}
	v.Keys[many-1] = v.Keys[0]
	if e := Check(v); e != api.ErrTwice {
		t.Errorf("an object of many keys with one twice: %d", e)
	}
}
