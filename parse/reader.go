package parse

import "litmus/api"

// reader reads a program, whose text is over at end: toks ahead of at are read.
type reader struct {
	toks   []api.Tok
	at     int
	end    int
	depth  int
	nodes  []api.Node
	pieces map[byte]piece
	lists  map[byte]map[string]shape
}

// program reads all, and answers which nodes are the defs.
func (r *reader) program() ([]int, error) {
	var top api.Node
	for !r.over() {
		if err := r.kid(&top, aDef, none); err != nil {
			return nil, err
		}
	}
	return top.Kids, nil
}

// kid reads a node that begins here, and makes it a kid of n.
func (r *reader) kid(n *api.Node, letter byte, by alone) error {
	switch {
	case r.over():
		return r.wrong(api.ErrForm)
	case r.depth == api.MaxDepth:
		return r.wrong(api.ErrDeep)
	}
	pos := r.toks[r.at].Pos
	r.depth++
	kid, err := r.node(letter, by)
	if err != nil {
		return err
	}
	r.depth--
	kid.Pos = pos
	n.Kids = append(n.Kids, len(r.nodes))
	r.nodes = append(r.nodes, kid)
	return nil
}

// node reads a list, where one may stand, or a token that is a node alone.
func (r *reader) node(letter byte, by alone) (api.Node, error) {
	if heads := r.lists[letter]; len(heads) > 0 && r.sees(api.TokOpen) {
		r.at++
		return r.list(heads)
	}
	n, ok := by(r.toks[r.at])
	if !ok {
		return api.Node{}, r.wrong(api.ErrForm)
	}
	r.at++
	return n, nil
}

// list reads a list from its head on.
func (r *reader) list(heads map[string]shape) (api.Node, error) {
	head, err := r.take(func(t api.Tok) bool {
		_, ok := heads[t.Text]
		return ok && (t.Kind == api.TokName || t.Kind == api.TokSign)
	})
	if err != nil {
		return api.Node{}, err
	}
	s := heads[head]
	n := api.Node{Kind: s.kind, Name: s.name}
	for i := range s.pieces {
		if err := r.pieces[s.pieces[i]](r, &n); err != nil {
			return api.Node{}, err
		}
	}
	return n, nil
}

// take reads a token that fits, and answers its text.
func (r *reader) take(fits func(api.Tok) bool) (string, error) {
	if r.over() || !fits(r.toks[r.at]) {
		return "", r.wrong(api.ErrForm)
	}
	r.at++
	return r.toks[r.at-1].Text, nil
}

func (r *reader) over() bool { return r.at == len(r.toks) }

func (r *reader) sees(kind int) bool { return !r.over() && r.toks[r.at].Kind == kind }

// wrong is an error with that number, at the token that is not read yet.
func (r *reader) wrong(code api.Errno) error {
	at := r.end
	if !r.over() {
		at = r.toks[r.at].Pos
	}
	return &wrong{api.Fault{Code: code, At: at}}
}
