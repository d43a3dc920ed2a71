package scope

import "emend/api"

// block is what is declared in one place, where no two may have one name, and the block around it.
type block struct {
	*block
	own map[string]api.Decl // by their names
}

// inside is a block without declarations, in another one or in none.
func inside(around *block) *block {
	return &block{around, map[string]api.Decl{}}
}

// put declares something. It tells whether that is the first of its name in the block; else the first one stays.
func (b *block) put(d api.Decl) bool {
	if _, ok := b.own[d.Name]; ok {
		return false
	}
	b.own[d.Name] = d
	return true
}

// find is the declaration of a name in the innermost block that has one.
func (b *block) find(name string) (api.Decl, bool) {
	for ; b != nil; b = b.block {
		if d, ok := b.own[name]; ok {
			return d, true
		}
	}
	return api.Decl{}, false
}

// known is what names stand for where a node is.
type known struct {
	*block        // of variables and params, block by block; of imports; of types and functions
	labels *block // of the labels around it, the innermost first
	met    *block // of all labels of its function up to there
}

// further is what is known in a block that begins there.
func (k known) further() known {
	k.block = inside(k.block)
	return k
}

// function is what is known in a function that begins there.
func (k known) function() known {
	k = k.further()
	k.met = inside(nil)
	return k
}

// under is what is known below a label.
func (k known) under(label api.Decl) known {
	k.labels = inside(k.labels)
	k.labels.put(label)
	return k
}

// imported is the directory of the import for which a node stands as a name, and whether it does.
func (k known) imported(n api.Node) (dir string, ok bool) {
	if n.Kind != api.NIdent {
		return "", false
	}
	d, _ := k.find(n.Name)
	return d.Dir, d.Kind == api.DImport
}
