package files

import "dredger/api"

// Name does a call of names: CallUnlink, CallMkdir, CallRmdir, CallLink, CallRename.
func (t *Table) Name(call int, path, to string) api.Err {
	if !t.usable() {
		return api.EINVAL
	}
	if do := t.ofOne(call); do != nil {
		return do(path)
	}
	if do := t.ofTwo(call); do != nil {
		return do(path, to)
	}
	return api.EINVAL
}

// ofOne is what a call does with one path; nil of a call that is no such.
func (t *Table) ofOne(call int) func(path string) api.Err {
	switch call {
	case api.CallUnlink:
		return t.system.Unlink
	case api.CallMkdir:
		return t.makeDir
	case api.CallRmdir:
		return t.system.Rmdir
	}
	return nil
}

// ofTwo is what a call does with two paths; nil of a call that is no such.
func (t *Table) ofTwo(call int) func(path, to string) api.Err {
	switch call {
	case api.CallLink:
		return t.system.Link
	case api.CallRename:
		return t.system.Rename
	}
	return nil
}

func (t *Table) makeDir(path string) api.Err {
	_, why := t.system.Make(path, api.NodeDir)
	return why
}

// Stat tells of a path.
func (t *Table) Stat(path string) (api.Info, api.Err) {
	of, why := t.find(path)
	if why != 0 {
		return api.Info{}, why
	}
	return t.system.Stat(of)
}

// Truncate gives a path's file a size.
func (t *Table) Truncate(path string, size int) api.Err {
	of, why := t.find(path)
	if why != 0 {
		return why
	}
	return t.system.Resize(of, size)
}

// find is the node of a path, in a table that a call made.
func (t *Table) find(path string) (int, api.Err) {
	if !t.usable() {
		return 0, api.EINVAL
	}
	return t.system.Find(path)
}
