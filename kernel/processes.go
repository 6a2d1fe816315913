package kernel

import "dredger/api"

// fork is the number of a child, whose memory is a copy.
func (c *call) fork() (int, api.Err, bool) {
	child, why := c.procs.Fork(c.pid)
	if why != 0 {
		return 0, why, false
	}
	c.spaces[child] = c.space.Copy()
	return child, 0, false
}

func (c *call) exit() (int, api.Err, bool) {
	return 0, c.procs.Exit(c.pid, c.words[0]), false
}

// wait asks for the memory first: a child that it tells of is gone.
func (c *call) wait() (int, api.Err, bool) {
	addr := c.words[0]
	if addr != 0 {
		if why := c.room(addr, width); why != 0 {
			return 0, why, false
		}
	}
	child, code, waits, why := c.procs.Wait(c.pid)
	if why != 0 || waits {
		return 0, why, waits
	}
	if addr != 0 {
		why = c.lay(addr, code)
	}
	return child, why, false
}

func (c *call) kill() (int, api.Err, bool) {
	return 0, c.procs.Kill(c.pid, c.words[0]), false
}

func (c *call) getpid() (int, api.Err, bool) { return c.pid, 0, false }
