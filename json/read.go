package json

import (
	"emend/api"
	"emend/jtext"
)

// isOpenBeyond tells whether more marks than a bound are open somewhere.
func isOpenBeyond(tokens []jtext.Token, most int) bool {
	open := 0
	for _, t := range tokens {
		switch {
		case isMark(t, "[") || isMark(t, "{"):
			open++
		case isMark(t, "]") || isMark(t, "}"):
			open = max(open-1, 0)
		}
		if open > most {
			return true
		}
	}
	return false
}

// isMark tells whether a token is this mark. A string may have the same text.
func isMark(t jtext.Token, mark string) bool {
	return t.Kind == jtext.Mark && t.Text == mark
}

// reader reads values from tokens: those that are left, and whether a key stood twice in what was read.
type reader struct {
	tokens []jtext.Token
	twice  bool
}

// take is the next token, which is left no longer. Behind the last one it is of no kind.
func (r *reader) take() jtext.Token {
	if len(r.tokens) == 0 {
		return jtext.Token{}
	}
	t := r.tokens[0]
	r.tokens = r.tokens[1:]
	return t
}

// takeMark takes the next token, if it is this mark, and tells whether it was.
func (r *reader) takeMark(mark string) bool {
	if len(r.tokens) == 0 || !isMark(r.tokens[0], mark) {
		return false
	}
	r.take()
	return true
}

// value reads a value, and tells whether one stood there.
func (r *reader) value() (v api.JValue, ok bool) {
	switch t := r.take(); t.Kind {
	case jtext.Word:
		return api.JValue{Kind: kindOf(t.Text)}, true
	case jtext.Number:
		return api.JValue{Kind: api.JNumber, Str: t.Text}, true
	case jtext.String:
		return api.JValue{Kind: api.JString, Str: t.Text}, true
	case jtext.Mark:
		return r.listed(t.Text)
	}
	return api.JValue{}, false
}

// kindOf is the kind of the value that a word is.
func kindOf(word string) int {
	switch word {
	case wordFalse:
		return api.JFalse
	case wordTrue:
		return api.JTrue
	}
	return api.JNull
}

// listed reads the rest of an array or an object behind the mark that opens it.
func (r *reader) listed(mark string) (v api.JValue, ok bool) {
	switch mark {
	case "[":
		v.Kind = api.JArray
		v.Items, ok = r.items("]", r.value)
	case "{":
		o := object{reader: r, met: keySet{}}
		v.Kind = api.JObject
		v.Items, ok = r.items("}", o.entry)
		v.Keys = o.keys
	}
	return v, ok
}

// items reads values, a comma between two, each by one, and the mark that closes them.
func (r *reader) items(closing string, one func() (api.JValue, bool)) (l []api.JValue, ok bool) {
	if r.takeMark(closing) {
		return nil, true
	}
	for {
		item, ok := one()
		if !ok {
			return nil, false
		}
		l = append(l, item)
		if r.takeMark(closing) {
			return l, true
		}
		if !r.takeMark(",") {
			return nil, false
		}
	}
}

// object is one that is read: its keys so far, in order, and as they were met.
type object struct {
	reader *reader
	keys   []string
	met    keySet
}

// entry reads a key, which it keeps, and the Item of it.
func (o *object) entry() (api.JValue, bool) {
	key := o.reader.take()
	if key.Kind != jtext.String || !o.reader.takeMark(":") {
		return api.JValue{}, false
	}
	o.keys = append(o.keys, key.Text)
	if o.met.meet(key.Text) {
		o.reader.twice = true
	}
	return o.reader.value()
}
