package desk

import (
	"slices"

	"tokenhall/api"
	"tokenhall/cases"
)

// Office is a desk at work, with all that decides what can be done there.
type Office struct {
	Desk api.Desk
	net  api.Net
	may  rights
}

// Open answers the office of which nothing was done yet; a copy of it goes on on its own.
func Open(n api.Net, i int, roles [][]int) (Office, api.Errno) {
	c, err := cases.Begin(n, i)
	if err != api.OK {
		return Office{}, err
	}
	return Office{Desk: api.Desk{Case: c}, net: copied(n), may: rightsOf(roles)}, api.OK
}

// copied is for the time behind Open: whoever handed n in may change it, and the office goes on.
func copied(n api.Net) api.Net {
	out := api.Net{Places: n.Places}
	for _, t := range n.Trans {
		out.Trans = append(out.Trans, api.Tran{Label: t.Label, Pre: slices.Clone(t.Pre), Post: slices.Clone(t.Post)})
	}
	return out
}

// Do moves the desk on by op, and answers what came of it; what has an error changes nothing.
func (o *Office) Do(op api.DeskOp) api.DeskAns {
	item, err := o.do(op)
	return api.DeskAns{Err: err, Item: item}
}

// do answers the item that op tells of; beside an error, and where there is none, that is 0.
func (o *Office) do(op api.DeskOp) (int, api.Errno) {
	switch op.Kind {
	case api.DeskBegin:
		return o.begin(op)
	case api.DeskEnd:
		return o.leave(op, api.CaseEnd)
	case api.DeskUndo:
		return o.leave(op, api.CaseUndo)
	case api.DeskGive:
		return o.give(op)
	case api.DeskSkip:
		return 0, o.work(api.CaseSkip, op.Tran)
	}
	return 0, api.ErrKind
}

func (o *Office) begin(op api.DeskOp) (int, api.Errno) {
	// Whether somebody may do it can be asked only of what there is.
	if op.Tran < 0 || op.Tran >= len(o.net.Trans) {
		return 0, api.ErrNone
	}
	if !o.allowed(op.User, op.Tran) {
		return 0, api.ErrRole
	}
	if err := o.work(api.CaseBegin, op.Tran); err != api.OK {
		return 0, err
	}
	o.Desk.Items = append(o.Desk.Items, api.Item{User: op.User, Tran: op.Tran, Open: true})
	return len(o.Desk.Items) - 1, api.OK
}

// leave is for work that no longer goes on: kind says whether it was ended or given back.
func (o *Office) leave(op api.DeskOp, kind int) (int, api.Errno) {
	item, err := o.held(op)
	if err != api.OK {
		return 0, err
	}
	if err := o.work(kind, item.Tran); err != api.OK {
		return 0, err
	}
	item.Open = false
	return op.Item, api.OK
}

func (o *Office) give(op api.DeskOp) (int, api.Errno) {
	item, err := o.held(op)
	if err != api.OK {
		return 0, err
	}
	if !o.allowed(op.To, item.Tran) {
		return 0, api.ErrRole
	}
	item.User = op.To
	return op.Item, api.OK
}

// held answers the open item that op names, if its user is the one who asks.
func (o *Office) held(op api.DeskOp) (*api.Item, api.Errno) {
	if op.Item < 0 || op.Item >= len(o.Desk.Items) {
		return nil, api.ErrNone
	}
	item := &o.Desk.Items[op.Item]
	if !item.Open {
		return nil, api.ErrNone
	}
	if item.User != op.User {
		return nil, api.ErrHeld
	}
	return item, api.OK
}

// work moves the case on; what has an error leaves it as it is.
func (o *Office) work(kind, tran int) api.Errno {
	next, err := cases.Do(o.net, o.Desk.Case, api.CaseOp{Kind: kind, Tran: tran})
	if err == api.OK {
		o.Desk.Case = next
	}
	return err
}

// allowed is asked of transitions that there are; users of whom nothing is told may do nothing.
func (o *Office) allowed(user, tran int) bool {
	return 0 <= user && user < api.MaxUsers && o.may[user][o.net.Trans[tran].Label]
}
