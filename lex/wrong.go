package lex

import "litmus/api"

// wrong is that a text is no row of tokens. Unwrap is its own, so that the whole fault is found in it, not its number alone.
type wrong struct{ api.Fault }

func (w *wrong) Unwrap() error { return &w.Fault }

func wrongAt(at int) error { return &wrong{api.Fault{Code: api.ErrForm, At: at}} }
