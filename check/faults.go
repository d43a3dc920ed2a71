package check

import (
	"cmp"

	"emend/api"
)

// teller is one who is told of faults.
type teller interface {
	tell(f api.Fault)
}

// least keeps the least of the faults that it is told of: OK, as long as there is none.
type least struct{ api.Fault }

func (l *least) tell(f api.Fault) {
	ahead := cmp.Or(cmp.Compare(f.Doc, l.Doc), cmp.Compare(f.At, l.At), cmp.Compare(f.E, l.E)) < 0
	if f.E != api.OK && (l.E == api.OK || ahead) {
		l.Fault = f
	}
}

// deaf keeps none: it is told of those that another one was told of, when the same was asked for the first time.
type deaf struct{}

func (deaf) tell(api.Fault) {}
