package kernel_test

import (
	"testing"

	"dredger/api"
)

// stats asks for what is told of a path.
func (m machine) stats(path string, want api.Info) {
	m.t.Helper()
	if info, e := m.Files().Stat(path); e != 0 || info != want {
		m.t.Errorf("%s: %v, %v, want %v", path, info, e, want)
	}
}

func (m machine) gone(path string) {
	m.t.Helper()
	if _, e := m.Files().Stat(path); e != api.ENOENT {
		m.t.Errorf("%s: %v, want ENOENT", path, e)
	}
}

func TestUnlink(t *testing.T) {
	m := furnished(t, 0)
	m.wrongPaths(api.CallUnlink, 0, 0)
	m.wrongWalks(api.CallUnlink, 0, 0)
	m.refuses(api.ENOENT, 1, api.CallUnlink, atNone)
	m.refuses(api.EISDIR, 1, api.CallUnlink, atDir)
	m.refuses(api.EINVAL, 1, api.CallUnlink, atRoot)
	m.does(0, 1, api.CallUnlink, atIn)
	m.gone("/d/x")
}

func TestMkdir(t *testing.T) {
	m := furnished(t, 0)
	m.wrongPaths(api.CallMkdir, 0, 0)
	m.wrongWalks(api.CallMkdir, 0, 0)
	m.refuses(api.EEXIST, 1, api.CallMkdir, atA)
	m.does(0, 1, api.CallMkdir, atNone)
	m.stats("/n", api.Info{Kind: api.NodeDir, Links: 1})
}

func TestRmdir(t *testing.T) {
	m := furnished(t, 0)
	m.wrongPaths(api.CallRmdir, 0, 0)
	m.wrongWalks(api.CallRmdir, 0, 0)
	m.refuses(api.ENOTDIR, 1, api.CallRmdir, atA)
	m.refuses(api.EFULL, 1, api.CallRmdir, atDir)
	m.does(0, 1, api.CallUnlink, atIn)
	m.does(0, 1, api.CallRmdir, atDir)
	m.gone("/d")
}

func TestLink(t *testing.T) {
	m := furnished(t, 0)
	m.wrongPaths(api.CallLink, 0, 0, atNone)
	m.wrongPaths(api.CallLink, 0, 0, atMuch)
	m.wrongPaths(api.CallLink, 0, 0, 0)
	m.wrongPaths(api.CallLink, 1, atA, 0)
	m.wrongPaths(api.CallLink, 1, atNone, 0)
	m.wrongWalks(api.CallLink, 0, 0, atNone)
	m.wrongWalks(api.CallLink, 1, atA, 0)
	m.refuses(api.EPERM, 1, api.CallLink, atDir, atNone)
	m.refuses(api.EEXIST, 1, api.CallLink, atA, atB)
	m.refuses(api.ENOENT, 1, api.CallLink, atNone, atA)
	m.does(0, 1, api.CallLink, atA, atNone)
	m.stats("/n", api.Info{Kind: api.NodeFile, Links: 2, Size: 6})
	m.does(0, 1, api.CallUnlink, atA)
	m.stats("/n", api.Info{Kind: api.NodeFile, Links: 1, Size: 6})
}

func TestRename(t *testing.T) {
	m := furnished(t, 0)
	m.wrongPaths(api.CallRename, 0, 0, atNone)
	m.wrongPaths(api.CallRename, 0, 0, atMuch)
	m.wrongPaths(api.CallRename, 0, 0, 0)
	m.wrongPaths(api.CallRename, 1, atA, 0)
	m.wrongPaths(api.CallRename, 1, atNone, 0)
	m.wrongWalks(api.CallRename, 0, 0, atNone)
	m.wrongWalks(api.CallRename, 1, atA, 0)
	m.refuses(api.EISDIR, 1, api.CallRename, atA, atDir)
	m.refuses(api.ENOTDIR, 1, api.CallRename, atDir, atA)
	m.refuses(api.ENOENT, 1, api.CallRename, atNone, atA)
	m.does(0, 1, api.CallRename, atA, atIn)
	m.stats("/d/x", api.Info{Kind: api.NodeFile, Links: 1, Size: 6})
	m.gone("/a")
	m.does(0, 1, api.CallRename, atIn, atNone)
	m.stats("/n", api.Info{Kind: api.NodeFile, Links: 1, Size: 6})
	m.gone("/d/x")
}

func TestStat(t *testing.T) {
	m := furnished(t, 0)
	m.wrongPaths(api.CallStat, 0, 0, atFree)
	m.wrongPaths(api.CallStat, 0, 0, 0)
	m.wrongWalks(api.CallStat, 0, 0, atFree)
	m.wrongWalks(api.CallStat, 0, 0, 0)
	m.refuses(api.ENOENT, 1, api.CallStat, atNone, 0)
	for _, addr := range append(nowhere(), 0, end-11, end-8, end-4) {
		m.refuses(api.EFAULT, 1, api.CallStat, atA, addr)
	}
	m.does(0, 1, api.CallStat, atA, end-12)
	m.is(1, end-12, 1, 0, 0, 0, 1, 0, 0, 0, 6, 0, 0, 0)
	m.does(0, 1, api.CallLink, atB, atNone)
	m.does(0, 1, api.CallStat, atRoot, atFree)
	m.is(1, atFree-1, 0, 2, 0, 0, 0, 1, 0, 0, 0, 4, 0, 0, 0, 0)
	m.does(0, 1, api.CallStat, atB, api.Base)
	m.is(1, api.Base, 1, 0, 0, 0, 2, 0, 0, 0, 0, 0, 0, 0)
}

func TestTruncate(t *testing.T) {
	m := furnished(t, 0)
	m.wrongPaths(api.CallTruncate, 0, 0, 3)
	m.wrongPaths(api.CallTruncate, 0, 0, -1)
	m.wrongWalks(api.CallTruncate, 0, 0, -1)
	m.refuses(api.ENOENT, 1, api.CallTruncate, atNone, -1)
	m.refuses(api.EISDIR, 1, api.CallTruncate, atDir, -1)
	m.refuses(api.EINVAL, 1, api.CallTruncate, atA, -1)
	m.refuses(api.EFBIG, 1, api.CallTruncate, atA, api.MaxFile+1)
	m.does(0, 1, api.CallTruncate, atA, 2)
	m.stats("/a", api.Info{Kind: api.NodeFile, Links: 1, Size: 2})
	m.does(0, 1, api.CallTruncate, atA, api.MaxFile)
	m.stats("/a", api.Info{Kind: api.NodeFile, Links: 1, Size: api.MaxFile})
}

// TestWhosePath: it is read in the memory of whoever calls.
func TestWhosePath(t *testing.T) {
	m := furnished(t, 0)
	m.does(2, 1, api.CallFork)
	m.put(2, atA, "/b")
	m.does(0, 2, api.CallUnlink, atA)
	m.gone("/b")
	m.stats("/a", api.Info{Kind: api.NodeFile, Links: 1, Size: 6})
	m.does(0, 2, api.CallStat, atRoot, atFree)
	m.is(2, atFree, 2)
	m.is(1, atFree, 0)
}
