package kernel

import "dredger/api"

// open is the descriptor of a path.
func (c *call) open() (int, api.Err, bool) {
	path, why := c.path(0)
	if why != 0 {
		return 0, why, false
	}
	file, why := c.files.Open(path, c.words[1])
	if why != 0 {
		return 0, why, false
	}
	fd, why := c.procs.Install(c.pid, file)
	if why != 0 {
		c.files.Drop(file)
	}
	return fd, why, false
}

func (c *call) close() (int, api.Err, bool) {
	return 0, c.procs.Close(c.pid, c.words[0]), false
}

// read asks for the memory ahead of reading: what was read could not be put back.
func (c *call) read() (int, api.Err, bool) {
	addr, count := c.words[1], c.words[2]
	file, why := c.file()
	if why != 0 {
		return 0, why, false
	}
	if count < 0 {
		return 0, api.EINVAL, false
	}
	if why := c.room(addr, min(count, api.Memory+1)); why != 0 {
		return 0, why, false
	}
	b, waits, why := c.files.Read(file, count)
	if why != 0 || waits {
		return 0, why, waits
	}
	return len(b), c.space.Out(addr, b), false
}

func (c *call) write() (int, api.Err, bool) {
	addr, count := c.words[1], c.words[2]
	file, why := c.file()
	if why != 0 {
		return 0, why, false
	}
	if count < 0 {
		return 0, api.EINVAL, false
	}
	b, why := c.space.In(addr, count)
	if why != 0 {
		return 0, why, false
	}
	n, waits, why := c.files.Write(file, b)
	return n, why, waits
}

func (c *call) seek() (int, api.Err, bool) {
	file, why := c.file()
	if why != 0 {
		return 0, why, false
	}
	off, why := c.files.Seek(file, c.words[1], c.words[2])
	return off, why, false
}

func (c *call) dup() (int, api.Err, bool) {
	fd, why := c.procs.Dup(c.pid, c.words[0])
	return fd, why, false
}

func (c *call) dup2() (int, api.Err, bool) {
	fd, why := c.procs.Dup2(c.pid, c.words[0], c.words[1])
	return fd, why, false
}

// pipe lays a new pipe's two descriptors into the memory, which is asked for first.
func (c *call) pipe() (int, api.Err, bool) {
	addr := c.words[0]
	if why := c.room(addr, 2*width); why != 0 {
		return 0, why, false
	}
	reader, writer, why := c.files.Pipe()
	if why != 0 {
		return 0, why, false
	}
	from, why := c.procs.Install(c.pid, reader)
	if why != 0 {
		c.files.Drop(reader)
		c.files.Drop(writer)
		return 0, why, false
	}
	to, why := c.procs.Install(c.pid, writer)
	if why != 0 {
		c.procs.Close(c.pid, from)
		c.files.Drop(writer)
		return 0, why, false
	}
	return 0, c.lay(addr, from, to), false
}
