package store

import (
	"moiety/api"
	"moiety/wire"
)

// Lean is x with the fields alone that its kind names.
func Lean(x api.Cmd) api.Cmd {
	lean := api.Cmd{Kind: x.Kind, Scen: x.Scen}
	switch x.Kind {
	case api.CSet:
		lean.N, lean.How = x.N, x.How
		if x.How == api.Weight {
			lean.Meas = x.Meas
		}
		fallthrough
	case api.CLock, api.CUnlock:
		lean.User = x.User
		fallthrough
	case api.CHold, api.CRelease:
		lean.Cell = x.Cell
	case api.CMerge:
		lean.User, lean.How = x.User, x.How
		fallthrough
	case api.CBranch:
		lean.Other = x.Other
	}
	return lean
}

// Line is a command's bytes.
func Line(x api.Cmd) []byte {
	b := numbers(nil, x.Kind)
	for _, s := range []string{x.User, x.Scen, x.Other} {
		b = wire.Text(b, s)
	}
	b = numbers(b, x.Cell.Meas)
	b = numbers(b, x.Cell.At[:]...)
	b = wire.Put(b, x.N)
	return numbers(b, x.How, x.Meas)
}

// Back is the command of which b is all the bytes. The reader's first fault; ErrForm, if bytes are left.
func Back(b []byte) (api.Cmd, api.Errno) {
	var x api.Cmd
	r := wire.New(b)
	x.Kind = int(r.Num())
	x.User, x.Scen, x.Other = r.Text(), r.Text(), r.Text()
	x.Cell.Meas = int(r.Num())
	for i := range x.Cell.At {
		x.Cell.At[i] = int(r.Num())
	}
	x.N = r.Num()
	x.How, x.Meas = int(r.Num()), int(r.Num())
	if r.Left() > 0 {
		r.Fail(api.ErrForm)
	}
	if why := r.Why(); why != api.OK {
		return api.Cmd{}, why
	}
	return x, api.OK
}

// numbers is b and then the bytes of all of l.
func numbers(b []byte, l ...int) []byte {
	for _, n := range l {
		b = wire.Put(b, int64(n))
	}
	return b
}
