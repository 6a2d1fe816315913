package kernel

import (
	"dredger/api"
	"dredger/mem"
)

const (
	width    = 4 // bytes of a number that a call lays into the memory
	mostArgs = 3 // words that a call looks at
)

// call is a call that a process makes. Words that are missing are 0.
type call struct {
	*Kernel
	pid, number int
	words       [mostArgs]int
	space       *mem.Space
}

// calls is what each call does: its value, its error, and whether it must wait.
func calls() [api.NumCalls]func(*call) (int, api.Err, bool) {
	return [...]func(*call) (int, api.Err, bool){
		api.CallOpen:     (*call).open,
		api.CallClose:    (*call).close,
		api.CallRead:     (*call).read,
		api.CallWrite:    (*call).write,
		api.CallSeek:     (*call).seek,
		api.CallDup:      (*call).dup,
		api.CallDup2:     (*call).dup2,
		api.CallUnlink:   (*call).name,
		api.CallMkdir:    (*call).name,
		api.CallRmdir:    (*call).name,
		api.CallLink:     (*call).name,
		api.CallRename:   (*call).name,
		api.CallStat:     (*call).stat,
		api.CallTruncate: (*call).truncate,
		api.CallPipe:     (*call).pipe,
		api.CallFork:     (*call).fork,
		api.CallExit:     (*call).exit,
		api.CallWait:     (*call).wait,
		api.CallKill:     (*call).kill,
		api.CallGetpid:   (*call).getpid,
	}
}

// path is the path at the address that a word is.
func (c *call) path(word int) (string, api.Err) { return c.space.Path(c.words[word]) }

// file is the open file of the descriptor that the first word is.
func (c *call) file() (int, api.Err) { return c.procs.File(c.pid, c.words[0]) }

// room tells whether n bytes from an address on are a part of the memory.
func (c *call) room(addr, n int) api.Err {
	_, why := c.space.In(addr, n)
	return why
}

// lay puts numbers into the memory, all of them or none.
func (c *call) lay(addr int, numbers ...int) api.Err {
	var b []byte
	for _, n := range numbers {
		b = append(b, mem.Little(n, width)...)
	}
	return c.space.Out(addr, b)
}
