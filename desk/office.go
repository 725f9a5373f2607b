package desk

import (
	"tokenhall/api"
	"tokenhall/cases"
)

// office is a desk, with all that decides what can be done there; its net must not be wrong.
type office struct {
	net  api.Net
	may  rights
	desk api.Desk
}

// do answers the item that op tells of; beside an error, and where there is none, that is 0.
func (o *office) do(op api.DeskOp) (int, api.Errno) {
	switch op.Kind {
	case api.DeskBegin:
		return o.begin(op)
	case api.DeskEnd:
		return o.leave(op, api.CaseEnd)
	case api.DeskUndo:
		return o.leave(op, api.CaseUndo)
	case api.DeskGive:
		return o.give(op)
	case api.DeskSkip:
		return 0, o.work(api.CaseSkip, op.Tran)
	}
	return 0, api.ErrKind
}

func (o *office) begin(op api.DeskOp) (int, api.Errno) {
	// Whether somebody may do it can be asked only of what there is.
	if op.Tran < 0 || op.Tran >= len(o.net.Trans) {
		return 0, api.ErrNone
	}
	if !o.allowed(op.User, op.Tran) {
		return 0, api.ErrRole
	}
	if err := o.work(api.CaseBegin, op.Tran); err != api.OK {
		return 0, err
	}
	o.desk.Items = append(o.desk.Items, api.Item{User: op.User, Tran: op.Tran, Open: true})
	return len(o.desk.Items) - 1, api.OK
}

// leave is for work that no longer goes on: kind says whether it was ended or given back.
func (o *office) leave(op api.DeskOp, kind int) (int, api.Errno) {
	item, err := o.held(op)
	if err != api.OK {
		return 0, err
	}
	if err := o.work(kind, item.Tran); err != api.OK {
		return 0, err
	}
	item.Open = false
	return op.Item, api.OK
}

func (o *office) give(op api.DeskOp) (int, api.Errno) {
	item, err := o.held(op)
	if err != api.OK {
		return 0, err
	}
	if !o.allowed(op.To, item.Tran) {
		return 0, api.ErrRole
	}
	item.User = op.To
	return op.Item, api.OK
}

// held answers the open item that op names, if its user is the one who asks.
func (o *office) held(op api.DeskOp) (*api.Item, api.Errno) {
	if op.Item < 0 || op.Item >= len(o.desk.Items) {
		return nil, api.ErrNone
	}
	item := &o.desk.Items[op.Item]
	if !item.Open {
		return nil, api.ErrNone
	}
	if item.User != op.User {
		return nil, api.ErrHeld
	}
	return item, api.OK
}

// work moves the case on; what has an error leaves it as it is.
func (o *office) work(kind, tran int) api.Errno {
	next, err := cases.Do(o.net, o.desk.Case, api.CaseOp{Kind: kind, Tran: tran})
	if err == api.OK {
		o.desk.Case = next
	}
	return err
}

// allowed is asked of transitions that there are; users of whom nothing is told may do nothing.
func (o *office) allowed(user, tran int) bool {
	return 0 <= user && user < api.MaxUsers && o.may[user][o.net.Trans[tran].Label]
}
