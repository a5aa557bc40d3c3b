package parse

import "litmus/api"

// piece reads what stands next in the list that n is made of, into n.
type piece func(r *reader, n *api.Node) error

// pieces is what reads the pieces of shapes, by their letters.
func pieces() map[byte]piece {
	return map[byte]piece{
		'(':    (*reader).open,
		')':    (*reader).shut,
		'n':    (*reader).name,
		'a':    (*reader).arg,
		'#':    (*reader).times,
		anExpr: (*reader).expr,
		aType:  (*reader).typed,
		arrow:  (*reader).arrow,
		aForm:  (*reader).form,
		aTerm:  (*reader).term,
		anInt:  (*reader).whole,
		'Y':    (*reader).types,
		'F':    (*reader).forms,
		'P':    (*reader).pairs,
	}
}

func (r *reader) open(*api.Node) error {
	_, err := r.take(func(t api.Tok) bool { return t.Kind == api.TokOpen })
	return err
}

func (r *reader) shut(*api.Node) error {
	_, err := r.take(func(t api.Tok) bool { return t.Kind == api.TokClose })
	return err
}

func (r *reader) name(n *api.Node) (err error) {
	n.Name, err = r.take(word)
	return err
}

func (r *reader) arg(n *api.Node) (err error) {
	n.Arg, err = r.take(word)
	return err
}

func (r *reader) times(n *api.Node) (err error) {
	n.Name, err = r.take(func(t api.Tok) bool { return t.Kind == api.TokInt })
	return err
}

func word(t api.Tok) bool { return t.Kind == api.TokName && Word(t.Text) }

func (r *reader) expr(n *api.Node) error  { return r.kid(n, anExpr, plain) }
func (r *reader) typed(n *api.Node) error { return r.kid(n, aType, tag) }
func (r *reader) arrow(n *api.Node) error { return r.kid(n, arrow, none) }
func (r *reader) form(n *api.Node) error  { return r.kid(n, aForm, truth) }
func (r *reader) term(n *api.Node) error  { return r.kid(n, aTerm, plain) }
func (r *reader) whole(n *api.Node) error { return r.kid(n, anInt, plain) }

func (r *reader) types(n *api.Node) error { return r.many(n, (*reader).typed, 1) }
func (r *reader) forms(n *api.Node) error { return r.many(n, (*reader).form, 1) }
func (r *reader) pairs(n *api.Node) error { return r.many(n, (*reader).pair, 2) }

func (r *reader) pair(n *api.Node) error {
	if err := r.kid(n, aText, text); err != nil {
		return err
	}
	return r.expr(n)
}

// many reads pieces up to the list's end, each of so many kids; those that n has already count, too.
func (r *reader) many(n *api.Node, one piece, kids int) error {
	for !r.sees(api.TokClose) {
		if !r.over() && len(n.Kids) == kids*api.MaxList {
			return r.wrong(api.ErrLong)
		}
		if err := one(r, n); err != nil {
			return err
		}
	}
	return nil
}
