package parse

import "litmus/api"

// wrong is that a text is no program. Unwrap is its own, so that the whole fault is found in it, not its number alone.
type wrong struct{ api.Fault }

func (w *wrong) Unwrap() error { return &w.Fault }
