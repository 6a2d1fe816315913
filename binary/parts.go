package binary

import (
	"dredger/api"
	"dredger/codec"
	"dredger/wire"
)

// program is the codec of an executed program; what it reads has the form of one, and may not be one still.
func program() codec.Codec[*wire.Reader, []api.Exec] {
	return codec.Join(list(api.MaxCalls, call()), end[[]api.Exec]())
}

func call() codec.Codec[*wire.Reader, api.Exec] {
	return codec.Join(
		codec.Part(func(x *api.Exec) *int { return &x.Number }, number(0)),
		codec.Part(func(x *api.Exec) *[]api.Copy { return &x.Copies }, list(maxCopies, copied())),
		codec.Part(func(x *api.Exec) *[]api.Word { return &x.Words }, list(api.MaxArgs, word())),
	)
}

func copied() codec.Codec[*wire.Reader, api.Copy] {
	laid := codec.Part(func(c *api.Copy) *[]byte { return &c.Bytes }, text(api.Memory))
	result := codec.Join(
		codec.Part(func(c *api.Copy) *int { return &c.Size }, number(0)),
		codec.Part(func(c *api.Copy) *int { return &c.Value }, whole()),
	)
	return codec.Join(
		codec.Part(func(c *api.Copy) *int { return &c.Addr }, number(0)),
		codec.Part(func(c *api.Copy) *int { return &c.Ref }, number(1)),
		codec.Chosen(func(c *api.Copy) codec.Codec[*wire.Reader, api.Copy] {
			if c.Ref == noResult {
				return laid
			}
			return result
		}),
	)
}

func word() codec.Codec[*wire.Reader, api.Word] {
	return codec.Join(
		codec.Part(func(w *api.Word) *int { return &w.Ref }, number(1)),
		codec.Part(func(w *api.Word) *int { return &w.Value }, whole()),
	)
}
