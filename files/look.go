package files

import "dredger/api"

// Look tells all open files, by their numbers.
func (t *Table) Look() []api.OpenInfo {
	if !t.usable() {
		return nil
	}
	var all []api.OpenInfo
	for n, f := range t.files {
		if f.held > 0 {
			all = append(all, api.OpenInfo{Number: n, Kind: f.kind, Of: f.of, Off: f.off, Flags: f.flags, Held: f.held})
		}
	}
	return all
}

// Nodes tells the file system's nodes.
func (t *Table) Nodes() []api.Node {
	if !t.usable() {
		return nil
	}
	return t.system.Look()
}

// Blocks tells the blocks that are allocated.
func (t *Table) Blocks() []int {
	if !t.usable() {
		return nil
	}
	return t.system.Blocks()
}

// Pipes tells the pipes.
func (t *Table) Pipes() []api.PipeInfo {
	if !t.usable() {
		return nil
	}
	return t.pipes.Look()
}
