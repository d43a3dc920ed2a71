package json

import (
	"bytes"
	stdjson "encoding/json"
	"fmt"
	"math/big"
	"math/rand"
	"regexp"
	"slices"
	"strings"
	"unicode/utf8"

	"emend/api"
	"emend/jtext"
)

// Short ways to write values.
var (
	null  = api.JValue{Kind: api.JNull}
	no    = api.JValue{Kind: api.JFalse}
	yes   = api.JValue{Kind: api.JTrue}
	empty = api.JValue{Kind: api.JArray}
	bare  = api.JValue{Kind: api.JObject}
)

func number(s string) api.JValue { return api.JValue{Kind: api.JNumber, Str: s} }

func text(s string) api.JValue { return api.JValue{Kind: api.JString, Str: s} }

func array(items ...api.JValue) api.JValue { return api.JValue{Kind: api.JArray, Items: items} }

// field is a key and its Item.
type field struct {
	key  string
	item api.JValue
}

func objectOf(fields ...field) api.JValue {
	v := api.JValue{Kind: api.JObject}
	for _, f := range fields {
		v.Keys = append(v.Keys, f.key)
		v.Items = append(v.Items, f.item)
	}
	return v
}

// nest is a value within so many arrays, or, if a key is given, objects of it.
func nest(v api.JValue, many int, key ...string) api.JValue {
	for range many {
		if len(key) > 0 {
			v = objectOf(field{key[0], v})
		} else {
			v = array(v)
		}
	}
	return v
}

// dump is all that a value has, nil and empty lists alike.
func dump(v api.JValue) string {
	var items []string
	for _, item := range v.Items {
		items = append(items, dump(item))
	}
	return fmt.Sprintf("<%d %q %q %s>", v.Kind, v.Str, v.Keys, strings.Join(items, ""))
}

// dumps are those of some values.
func dumps(l ...api.JValue) []string {
	var told []string
	for _, v := range l {
		told = append(told, dump(v))
	}
	return told
}

// modelDepth is the chapter's depth.
func modelDepth(v api.JValue) int {
	if v.Kind != api.JArray && v.Kind != api.JObject {
		return 0
	}
	greatest := 0
	for _, item := range v.Items {
		greatest = max(greatest, modelDepth(item))
	}
	return greatest + 1
}

var numberForm = regexp.MustCompile(`\A-?(0|[1-9][0-9]*)(\.[0-9]+)?([eE][+-]?[0-9]+)?\z`)

// modelFaults are all faults of a value, but for its depth, in the chapter's order.
// What stands within something misshapen is passed by: nothing within comes first.
func modelFaults(v api.JValue) (l []api.Errno) {
	mayHave := map[int]string{api.JNull: "", api.JFalse: "", api.JTrue: "", api.JNumber: "s", api.JString: "s", api.JArray: "i", api.JObject: "ki"}
	may, known := mayHave[v.Kind]
	has := ""
	if v.Str != "" {
		has += "s"
	}
	if len(v.Keys) > 0 {
		has += "k"
	}
	if len(v.Items) > 0 {
		has += "i"
	}
	if !known || strings.Trim(has, may) != "" ||
		v.Kind == api.JNumber && !numberForm.MatchString(v.Str) ||
		v.Kind == api.JObject && len(v.Keys) != len(v.Items) {
		return []api.Errno{api.ErrForm}
	}
	if v.Kind == api.JString && !utf8.ValidString(v.Str) {
		l = append(l, api.ErrUtf)
	}
	for i, item := range v.Items {
		if v.Kind == api.JObject && !utf8.ValidString(v.Keys[i]) {
			l = append(l, api.ErrUtf)
		}
		if v.Kind == api.JObject && slices.Index(v.Keys, v.Keys[i]) < i {
			l = append(l, api.ErrTwice)
		}
		l = append(l, modelFaults(item)...)
	}
	return l
}

// modelCheck is what the chapter says Check is.
func modelCheck(v api.JValue) api.Errno {
	if modelDepth(v) > api.MaxDepth {
		return api.ErrLong
	}
	return append(modelFaults(v), api.OK)[0]
}

// modelText is the text of a value that may be.
func modelText(v api.JValue) string {
	quote := func(s string) string {
		q, _ := jtext.Quote(s)
		return q
	}
	var items []string
	for i, item := range v.Items {
		one := modelText(item)
		if v.Kind == api.JObject {
			one = quote(v.Keys[i]) + ":" + one
		}
		items = append(items, one)
	}
	all := strings.Join(items, ",")
	return []string{"null", "false", "true", v.Str, quote(v.Str), "[" + all + "]", "{" + all + "}"}[v.Kind]
}

// modelOpen is how many marks are open at most.
func modelOpen(l []jtext.Token) int {
	open, most := 0, 0
	for _, one := range l {
		if one.Kind != jtext.Mark {
			continue
		}
		if strings.Contains("[{", one.Text) {
			open++
		} else if strings.Contains("]}", one.Text) && open > 0 {
			open--
		}
		most = max(most, open)
	}
	return most
}

// modelParse is what the chapter says Parse is.
func modelParse(s string) (api.JValue, api.Errno) {
	l, _, e := jtext.Tokens(s)
	if e != api.OK {
		return null, e
	}
	if modelOpen(l) > api.MaxDepth {
		return null, api.ErrLong
	}
	if !stdjson.Valid([]byte(s)) {
		return null, api.ErrForm
	}
	d := stdjson.NewDecoder(bytes.NewReader([]byte(s)))
	d.UseNumber()
	v := modelValue(d)
	for _, e := range modelFaults(v) {
		if e == api.ErrTwice {
			return null, e
		}
	}
	return v, api.OK
}

// modelValue is the next value of a text that is one.
func modelValue(d *stdjson.Decoder) api.JValue {
	t, err := d.Token()
	if err != nil {
		panic(err)
	}
	switch t := t.(type) {
	case bool:
		if t {
			return yes
		}
		return no
	case stdjson.Number:
		return number(string(t))
	case string:
		return text(t)
	case stdjson.Delim:
		v := api.JValue{Kind: api.JArray}
		if t == '{' {
			v.Kind = api.JObject
		}
		for d.More() {
			if t == '{' {
				v.Keys = append(v.Keys, modelValue(d).Str)
			}
			v.Items = append(v.Items, modelValue(d))
		}
		d.Token()
		return v
	}
	return null
}

// modelInt is what the chapter says Int is of a number's Str.
func modelInt(s string) (int64, bool) {
	if !regexp.MustCompile(`\A-?(0|[1-9][0-9]*)\z`).MatchString(s) {
		return 0, false
	}
	n, ok := new(big.Int).SetString(s, 10)
	if !ok || !n.IsInt64() {
		return 0, false
	}
	return n.Int64(), true
}

// inOrder is a value that may be with all keys sorted.
func inOrder(v api.JValue) api.JValue {
	var fields []field
	out := v
	out.Keys, out.Items = nil, nil
	for i, item := range v.Items {
		if v.Kind == api.JArray {
			out.Items = append(out.Items, inOrder(item))
			continue
		}
		fields = append(fields, field{v.Keys[i], inOrder(item)})
	}
	slices.SortFunc(fields, func(a, b field) int { return strings.Compare(a.key, b.key) })
	for _, f := range fields {
		out.Keys = append(out.Keys, f.key)
		out.Items = append(out.Items, f.item)
	}
	return out
}

// modelSame is what the chapter says Same is.
func modelSame(a, b api.JValue) bool {
	return modelCheck(a) == api.OK && modelCheck(b) == api.OK && dump(inOrder(a)) == dump(inOrder(b))
}

func pick[T any](r *rand.Rand, l []T) T { return l[r.Intn(len(l))] }

var (
	someNumbers = []string{"0", "-0", "7", "-7", "1.0", "1", "1e5", "1E5", "-1.5e-3", "9223372036854775807", "9223372036854775808"}
	someTexts   = []string{"", "a", "b", "ab", "[", "{", "true", "1", "\"", "\\", "\n", "\x00", "\u00e9", "\ufffd", "\U0001f600", "\u2028"}
)

// fine is some value that may be, of at most some depth.
func fine(r *rand.Rand, depth int) api.JValue {
	kinds := 7
	if depth == 0 {
		kinds = 5
	}
	v := api.JValue{Kind: r.Intn(kinds)}
	switch v.Kind {
	case api.JNumber:
		v.Str = pick(r, someNumbers)
	case api.JString:
		v.Str = pick(r, someTexts)
	case api.JArray, api.JObject:
		for range r.Intn(5) {
			key := pick(r, someTexts)
			if v.Kind == api.JObject && slices.Contains(v.Keys, key) {
				continue
			}
			if v.Kind == api.JObject {
				v.Keys = append(v.Keys, key)
			}
			v.Items = append(v.Items, fine(r, depth-1))
		}
	}
	return v
}

// spoil puts one thing out of order somewhere in a value, or changes it to another one.
func spoil(r *rand.Rand, v *api.JValue) {
	if len(v.Items) > 0 && r.Intn(3) > 0 {
		spoil(r, &v.Items[r.Intn(len(v.Items))])
		return
	}
	switch r.Intn(12) {
	case 0:
		v.Kind = r.Intn(10) - 1
	case 1:
		v.Str = pick(r, []string{"", "01", "1.", " 1", "1 ", "a", "null", "\xff", "\xed\xa0\x80", "7"})
	case 2:
		v.Keys = append(v.Keys, pick(r, someTexts))
	case 3:
		v.Items = append(v.Items, fine(r, 1))
	case 4:
		v.Keys = append(v.Keys, pick(r, someTexts))
		v.Items = append(v.Items, fine(r, 1))
	case 5, 9:
		if len(v.Keys) > 0 {
			v.Keys[r.Intn(len(v.Keys))] = pick(r, []string{"a", "b", "", "\xff", "\xc3", "\xe2\x82"})
		}
	case 10:
		if len(v.Keys) > 0 {
			v.Keys[r.Intn(len(v.Keys))] = pick(r, v.Keys)
		}
	case 11:
		*v = objectOf(field{pick(r, someTexts[:3]), *v}, field{pick(r, someTexts[:3]), fine(r, 1)}, field{pick(r, someTexts[:3]), *v})
	case 6:
		v.Keys = nil
	case 7:
		if len(v.Items) > 0 {
			v.Items = v.Items[:len(v.Items)-1]
		}
	case 8:
		*v = nest(*v, r.Intn(70), []string{"k"}[:r.Intn(2)]...)
	}
}

// shuffled is a value with its objects' keys in some other order, if they have as many Items.
func shuffled(r *rand.Rand, v api.JValue) api.JValue {
	out := v
	if v.Kind == api.JObject && len(v.Keys) != len(v.Items) {
		return out
	}
	out.Items = nil
	order := make([]int, len(v.Items))
	for i := range order {
		order[i] = i
	}
	if v.Kind == api.JObject {
		out.Keys = nil
		r.Shuffle(len(order), func(i, j int) { order[i], order[j] = order[j], order[i] })
	}
	for _, i := range order {
		if v.Kind == api.JObject {
			out.Keys = append(out.Keys, v.Keys[i])
		}
		out.Items = append(out.Items, shuffled(r, v.Items[i]))
	}
	return out
}

// fines are values that may be.
func fines() []api.JValue {
	l := []api.JValue{null, no, yes, empty, bare, array(empty, bare), nest(null, 64), nest(empty, 63), nest(bare, 63, "k")}
	for _, s := range someNumbers {
		l = append(l, number(s), array(number(s)))
	}
	for _, s := range someTexts {
		l = append(l, text(s), objectOf(field{s, text(s)}))
	}
	r := rand.New(rand.NewSource(41))
	for range 3000 {
		l = append(l, fine(r, r.Intn(5)))
	}
	return l
}

// spoiled are values in which something may be out of order.
func spoiled() []api.JValue {
	r := rand.New(rand.NewSource(42))
	var l []api.JValue
	for range 20000 {
		v := fine(r, r.Intn(4))
		for range 1 + r.Intn(3) {
			spoil(r, &v)
		}
		l = append(l, v)
	}
	return l
}

// changed are texts of values in which some token may be taken out, put in, or another one, with blanks between them, too.
func changed() []string {
	some := []string{"[", "]", "{", "}", ",", ":", `"a"`, `"b"`, "1", "null", "true", `"a":1`, "tru", "\xff", `"a":1,`}
	r := rand.New(rand.NewSource(43))
	var l []string
	for range 8 {
		for _, v := range fines() {
			s := modelText(v)
			tokens, _, _ := jtext.Tokens(s)
			var row []string
			for _, one := range tokens {
				row = append(row, s[one.From:one.To])
			}
			changeRow(r, &row, some)
			l = append(l, strings.Join(row, pick(r, []string{"", " ", "\n\t", "\r"})))
		}
	}
	return l
}

// changeRow does one thing to a row of tokens, or nothing.
func changeRow(r *rand.Rand, row *[]string, some []string) {
	at := r.Intn(len(*row))
	switch r.Intn(5) {
	case 0:
		*row = slices.Delete(*row, at, at+1)
	case 1:
		*row = slices.Insert(*row, at, pick(r, some))
	case 2:
		(*row)[at] = pick(r, some)
	case 3:
		for n := range *row { // some string in the place of another one: of a key, perhaps
			if other := pick(r, *row); (*row)[n][0] == '"' && other[0] == '"' {
				(*row)[n] = other
				break
			}
		}
	}
}
