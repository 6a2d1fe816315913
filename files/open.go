package files

import "dredger/api"

const (
	toMove   = api.FlagRead | api.FlagWrite // a file must be opened for one of them
	allFlags = toMove | api.FlagAppend | api.FlagMake | api.FlagOnly | api.FlagCut
)

// Open opens a path.
func (t *Table) Open(path string, flags int) (int, api.Err) {
	if !t.usable() || flags&^allFlags != 0 || flags&toMove == 0 {
		return 0, api.EINVAL
	}
	free := t.free()
	if len(free) == 0 {
		return 0, api.ENFILE
	}
	of, why := t.findOrMake(path, flags)
	if why != 0 {
		return 0, why
	}
	if why := t.ready(of, flags); why != 0 {
		return 0, why
	}
	if why := t.system.Hold(of); why != 0 {
		return 0, why
	}
	t.files[free[0]] = file{kind: api.OpenFile, of: of, flags: flags, held: 1}
	return free[0], 0
}

// findOrMake is the node of a path, which is made, if it is not there and the flags say so.
func (t *Table) findOrMake(path string, flags int) (int, api.Err) {
	of, why := t.system.Find(path)
	if flags&api.FlagMake == 0 {
		return of, why
	}
	if why == api.ENOENT {
		return t.system.Make(path, api.NodeFile)
	}
	if why == 0 && flags&api.FlagOnly != 0 {
		return 0, api.EEXIST
	}
	return of, why
}

// ready refuses a directory that would be written, and cuts a file that the flags want cut.
func (t *Table) ready(of, flags int) api.Err {
	if flags&api.FlagWrite == 0 {
		return 0
	}
	info, why := t.system.Stat(of)
	if why != 0 {
		return why
	}
	if info.Kind == api.NodeDir {
		return api.EISDIR
	}
	if flags&api.FlagCut == 0 {
		return 0
	}
	return t.system.Resize(of, 0)
}

// Pipe opens a new pipe's two ends: the one that is read, and the one that is written.
func (t *Table) Pipe() (int, int, api.Err) {
	if !t.usable() {
		return 0, 0, api.EINVAL
	}
	free := t.free()
	if len(free) < 2 {
		return 0, 0, api.ENFILE
	}
	of, why := t.pipes.Make()
	if why != 0 {
		return 0, 0, why
	}
	t.files[free[0]] = file{kind: api.OpenRead, of: of, flags: api.FlagRead, held: 1}
	t.files[free[1]] = file{kind: api.OpenWrite, of: of, flags: api.FlagWrite, held: 1}
	return free[0], free[1], 0
}
