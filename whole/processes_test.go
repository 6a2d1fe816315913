package whole_test

import (
	"bytes"
	"encoding/binary"
	"slices"

	"dredger/api"
)

type proc struct {
	parent, code int
	over         bool
	fds          [6]int
	mem          []byte
	step         int // of the run
	waits        bool
	known        map[int]int // results, by their steps
}

// isPart: are so many bytes from an address on a part of the memory?
func isPart(addr, n int) bool {
	return n >= 0 && n <= 2048 && addr >= 4096 && addr <= 6144-n
}

func (p *proc) put(addr int, b []byte) {
	refuse(!isPart(addr, len(b)), api.EFAULT)
	copy(p.mem[addr-4096:], b)
}

// fours is numbers in four bytes each.
func fours(l ...int) (b []byte) {
	for _, n := range l {
		b = binary.LittleEndian.AppendUint32(b, uint32(n))
	}
	return b
}

func (p *proc) path(addr int) string {
	refuse(addr < 4096 || addr >= 6144, api.EFAULT)
	b := p.mem[addr-4096:]
	n := bytes.IndexByte(b, 0)
	refuse(n < 0, api.EFAULT)
	refuse(n > 24, api.ENAME)
	return string(b[:n])
}

// file is the open file of a descriptor.
func (p *proc) file(fd int) int {
	refuse(fd < 0 || fd > 5 || p.fds[fd] == 0, api.EBADF)
	return p.fds[fd]
}

// install gives the lowest free descriptor an open file; -1: there is none.
func (p *proc) install(o int) int {
	fd := slices.Index(p.fds[:], 0)
	if fd >= 0 {
		p.fds[fd] = o
	}
	return fd
}

func (w *world) close(p *proc, fd int) {
	o := p.file(fd)
	p.fds[fd] = 0
	w.drop(o)
}

func (w *world) fork(pid int) int {
	refuse(len(w.procs) == 4, api.EAGAIN)
	p := w.procs[pid]
	child := lowest(w.procs)
	w.procs[child] = &proc{parent: pid, fds: p.fds, mem: slices.Clone(p.mem)}
	for _, o := range p.fds {
		if o != 0 && !w.has(api.DefectFork) {
			w.opens[o].held++
		}
	}
	return child
}

func (w *world) exit(pid, code int) {
	p := w.procs[pid]
	for fd, o := range p.fds {
		if o != 0 {
			w.close(p, fd)
		}
	}
	p.over, p.code = true, code&255
	for n, c := range w.procs {
		if c.parent == pid && c.over {
			delete(w.procs, n)
		} else if c.parent == pid {
			c.parent = 0
		}
	}
	if p.parent == 0 || w.procs[p.parent].over {
		delete(w.procs, pid)
	}
}

func (w *world) wait(pid int) (child, code int) {
	least, any := 0, false
	for n, c := range w.procs {
		if c.parent != pid {
			continue
		}
		any = true
		if c.over && (least == 0 || n < least) {
			least = n
		}
	}
	refuse(!any, api.ECHILD)
	if least == 0 {
		panic(mustWait{})
	}
	code = w.procs[least].code
	delete(w.procs, least)
	return least, code
}

func (w *world) runs(pid int) bool {
	p := w.procs[pid]
	return p != nil && !p.over
}

func (w *world) kill(pid, target int) {
	refuse(!w.runs(target), api.ESRCH)
	refuse(target == 1 && pid != 1, api.EPERM)
	w.exit(target, 128)
}

func (w *world) dup2(p *proc, fd, to int) int {
	o := p.file(fd)
	refuse(to < 0 || to > 5, api.EBADF)
	if fd == to {
		return to
	}
	if old := p.fds[to]; old != 0 && !w.has(api.DefectDup) {
		w.drop(old)
	}
	p.fds[to] = o
	w.opens[o].held++
	return to
}

func (w *world) dup(p *proc, fd int) int {
	o := p.file(fd)
	to := p.install(o)
	refuse(to < 0, api.EMFILE)
	w.opens[o].held++
	return to
}

func (w *world) openCall(p *proc, path string, flags int) int {
	o := w.open(path, flags)
	fd := p.install(o)
	if fd < 0 {
		w.drop(o)
		panic(api.EMFILE)
	}
	return fd
}

func (w *world) pipeCall(p *proc, addr int) {
	refuse(!isPart(addr, 8), api.EFAULT)
	r, to := w.pipe()
	a := p.install(r)
	if a < 0 {
		w.drop(r)
		w.drop(to)
		panic(api.EMFILE)
	}
	b := p.install(to)
	if b < 0 {
		w.close(p, a)
		w.drop(to)
		panic(api.EMFILE)
	}
	p.put(addr, fours(a, b))
}

func (w *world) readCall(p *proc, fd, addr, count int) int {
	x := w.opens[p.file(fd)]
	refuse(count < 0, api.EINVAL)
	refuse(!isPart(addr, count), api.EFAULT)
	got := w.read(x, count)
	p.put(addr, got)
	return len(got)
}

func (w *world) writeCall(p *proc, fd, addr, count int) int {
	x := w.opens[p.file(fd)]
	refuse(count < 0, api.EINVAL)
	refuse(!isPart(addr, count), api.EFAULT)
	return w.write(x, slices.Clone(p.mem[addr-4096:][:count]))
}

func (w *world) statCall(p *proc, path string, addr int) {
	n := w.must(path)
	kind := api.NodeFile
	if w.nodes[n].dir {
		kind = api.NodeDir
	}
	p.put(addr, fours(kind, w.nodes[n].links, w.size(n)))
}

func (w *world) waitCall(pid, addr int) int {
	refuse(addr != 0 && !isPart(addr, 4), api.EFAULT)
	child, code := w.wait(pid)
	if addr != 0 {
		w.procs[pid].put(addr, fours(code))
	}
	return child
}

// call is a call of a process that runs.
func (w *world) call(pid, number int, words []int) (value int, e api.Err, waits bool) {
	defer func() {
		switch why := recover().(type) {
		case nil:
		case api.Err:
			value, e = 0, why
		case mustWait:
			value, waits = 0, true
		default:
			panic(why)
		}
	}()
	return w.do(pid, number, append(slices.Clone(words), 0, 0, 0)), 0, false
}

func (w *world) do(pid, number int, a []int) int {
	p := w.procs[pid]
	switch number {
	case api.CallOpen:
		return w.openCall(p, p.path(a[0]), a[1])
	case api.CallClose:
		w.close(p, a[0])
	case api.CallRead:
		return w.readCall(p, a[0], a[1], a[2])
	case api.CallWrite:
		return w.writeCall(p, a[0], a[1], a[2])
	case api.CallSeek:
		return w.seek(w.opens[p.file(a[0])], a[1], a[2])
	case api.CallDup:
		return w.dup(p, a[0])
	case api.CallDup2:
		return w.dup2(p, a[0], a[1])
	case api.CallUnlink:
		w.unlink(p.path(a[0]))
	case api.CallMkdir:
		w.make(p.path(a[0]), true)
	case api.CallRmdir:
		w.rmdir(p.path(a[0]))
	case api.CallLink:
		w.link(p.path(a[0]), p.path(a[1]))
	case api.CallRename:
		w.rename(p.path(a[0]), p.path(a[1]))
	case api.CallStat:
		w.statCall(p, p.path(a[0]), a[1])
	case api.CallTruncate:
		w.truncate(p.path(a[0]), a[1])
	case api.CallPipe:
		w.pipeCall(p, a[0])
	case api.CallFork:
		return w.fork(pid)
	case api.CallExit:
		w.exit(pid, a[0])
	case api.CallWait:
		return w.waitCall(pid, a[0])
	case api.CallKill:
		w.kill(pid, a[0])
	case api.CallGetpid:
		return pid
	default:
		panic(api.ENOSYS)
	}
	return 0
}
