package cases

import (
	"slices"

	"tokenhall/api"
	"tokenhall/mark"
	"tokenhall/net"
)

// work answers what a case, which must be right, becomes by transition t, which there must be.
type work func(c api.Case, t int) (api.Case, api.Errno)

// done trusts n and c: whoever does much asks once, for right cases become right cases.
func done(n api.Net, c api.Case, o api.CaseOp) (api.Case, api.Errno) {
	do := workOf(n, o.Kind)
	if do == nil {
		return api.Case{}, api.ErrKind
	}
	if o.Tran < 0 || o.Tran >= len(n.Trans) {
		return api.Case{}, api.ErrNone
	}
	// What nobody sees takes no time, and all else does.
	if (n.Trans[o.Tran].Label == 0) != (o.Kind == api.CaseSkip) {
		return api.Case{}, api.ErrForm
	}
	return do(c, o.Tran)
}

// workOf answers nil if there is no such kind.
func workOf(n api.Net, kind int) work {
	switch kind {
	case api.CaseSkip:
		return skipping(n)
	case api.CaseBegin:
		return beginning(n)
	case api.CaseEnd:
		return leaving(n, func(t api.Tran) []int { return t.Post })
	case api.CaseUndo:
		return leaving(n, func(t api.Tran) []int { return t.Pre })
	}
	return nil
}

func skipping(n api.Net) work {
	return func(c api.Case, t int) (api.Case, api.Errno) {
		m, err := net.Fire(n, c.Mark, t)
		if err != api.OK {
			return api.Case{}, err
		}
		return api.Case{Mark: m, Busy: slices.Clone(c.Busy)}, api.OK
	}
}

func beginning(n api.Net) work {
	return func(c api.Case, t int) (api.Case, api.Errno) {
		m, err := mark.Minus(c.Mark, n.Trans[t].Pre)
		if err != api.OK {
			return api.Case{}, err
		}
		busy, err := mark.Plus(c.Busy, once(n, t))
		if err != api.OK {
			return api.Case{}, err
		}
		return api.Case{Mark: m, Busy: busy}, api.OK
	}
}

// leaving is work that no longer goes on; puts says which of its tokens come of it.
func leaving(n api.Net, puts func(t api.Tran) []int) work {
	return func(c api.Case, t int) (api.Case, api.Errno) {
		busy, err := mark.Minus(c.Busy, once(n, t))
		if err != api.OK {
			return api.Case{}, err
		}
		m, err := mark.Plus(c.Mark, puts(n.Trans[t]))
		if err != api.OK {
			return api.Case{}, err
		}
		return api.Case{Mark: m, Busy: busy}, api.OK
	}
}

// once tells, like a mark of transitions, that t goes on.
func once(n api.Net, t int) []int {
	l := make([]int, len(n.Trans))
	l[t] = 1
	return l
}
