package kernel

import "dredger/api"

// name does a call of names. One of two paths goes on as one of a single path does; of two wrong ones the first is told.
func (c *call) name() (int, api.Err, bool) {
	var path, to string
	var why, second api.Err
	switch c.number {
	case api.CallLink, api.CallRename:
		to, second = c.path(1)
		fallthrough
	case api.CallUnlink, api.CallMkdir, api.CallRmdir:
		path, why = c.path(0)
	}
	if why != 0 {
		return 0, why, false
	}
	if second != 0 {
		return 0, second, false
	}
	return 0, c.files.Name(c.number, path, to), false
}

// stat lays what is told of a path into the memory.
func (c *call) stat() (int, api.Err, bool) {
	path, why := c.path(0)
	if why != 0 {
		return 0, why, false
	}
	info, why := c.files.Stat(path)
	if why != 0 {
		return 0, why, false
	}
	return 0, c.lay(c.words[1], info.Kind, info.Links, info.Size), false
}

func (c *call) truncate() (int, api.Err, bool) {
	path, why := c.path(0)
	if why != 0 {
		return 0, why, false
	}
	return 0, c.files.Truncate(path, c.words[1]), false
}
