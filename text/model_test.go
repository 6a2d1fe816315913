package text_test

import (
	"encoding/hex"
	"errors"
	"fmt"
	"math/big"
	"regexp"
	"slices"
	"strconv"
	"strings"

	"dredger/api"
	"dredger/prog"
)

// The model reads pieces by patterns, and keeps what is open on a stack of its own.

var (
	headForm  = regexp.MustCompile(`^ *(?:r(0|[1-9][0-9]{0,2}) *= *)?([a-z_][a-z0-9_$]*) *\( *`)
	pieceForm = regexp.MustCompile(`^(?:(r|@)(0|[1-9][0-9]{0,2})|(nil)|(-?[0-9]+)|"((?:[0-9a-f]{2})*)"|([&{},)]))( *)`)
	quiet     = regexp.MustCompile(`^ *(?:#.*)?$`)
)

// modelPrint is the text of a right program.
func modelPrint(t api.Table, p api.Program) string {
	s := ""
	for i, x := range p {
		c := t.Calls[x.Call]
		if c.Ret != "" {
			s += fmt.Sprintf("r%d = ", i)
		}
		s += fmt.Sprintf("%s(%s)\n", c.Name, modelArgs(x.Args))
	}
	return s
}

func modelArgs(l []api.Arg) string {
	var all []string
	for _, a := range l {
		switch a.Kind {
		case api.ArgValue:
			all = append(all, big.NewInt(int64(a.Value)).String())
		case api.ArgRef:
			all = append(all, fmt.Sprintf("r%d", a.Value))
		case api.ArgPtr:
			all = append(all, append([]string{"nil"}, "&"+modelArgs(a.Kids))[len(a.Kids)])
		case api.ArgGroup:
			all = append(all, "{"+modelArgs(a.Kids)+"}")
		case api.ArgUnion:
			all = append(all, fmt.Sprintf("@%d %s", a.Value, modelArgs(a.Kids)))
		case api.ArgData:
			all = append(all, fmt.Sprintf(`"%x"`, a.Bytes))
		}
	}
	return strings.Join(all, ", ")
}

// modelParse is the program of a text, or its fault.
func modelParse(t api.Table, s string) (api.Program, api.Fault) {
	if !prog.Can(t) {
		return nil, api.Fault{Why: api.ErrArg}
	}
	var p api.Program
	var starts []int
	start := 0
	for _, line := range strings.Split(s, "\n") {
		if !quiet.MatchString(clean(line)) {
			x, why := modelLine(t, line, len(p))
			if why != api.OK {
				return nil, api.Fault{At: start, Why: why}
			}
			p, starts = append(p, x), append(starts, start)
		}
		start += len(line) + 1
	}
	var f api.Fault
	if errors.As(prog.Check(t, p), &f) {
		return nil, api.Fault{At: starts[f.At], Why: f.Why}
	}
	return p, api.Fault{}
}

// clean is a line whose bytes beyond 127 are others, which patterns see as runes of one byte.
func clean(line string) string {
	return strings.Map(func(r rune) rune {
		if r > 127 {
			return '?'
		}
		return r
	}, line)
}

func modelLine(t api.Table, line string, place int) (api.Step, api.Errno) {
	m := headForm.FindStringSubmatch(line)
	if m == nil {
		return api.Step{}, api.ErrText
	}
	call := slices.IndexFunc(t.Calls, func(c api.Call) bool { return c.Name == m[2] })
	if call < 0 || (m[1] != "") != (t.Calls[call].Ret != "") || m[1] != "" && m[1] != strconv.Itoa(place) {
		return api.Step{}, api.ErrText
	}
	args, why := modelRest(line[len(m[0]):])
	return api.Step{Call: call, Args: args}, why
}

// modelRest is the arguments that stand behind a call's first mark, with the other mark behind. The first one of what is open is the call itself.
func modelRest(rest string) ([]api.Arg, api.Errno) {
	open := []api.Arg{{}}
	wanted, first, part := true, true, false
	for rest != "" {
		if wanted && len(open) == 401 && strings.IndexByte("-0123456789rn&{@\"", rest[0]) >= 0 {
			return nil, api.ErrDeep
		}
		m := pieceForm.FindStringSubmatch(rest)
		if m == nil {
			return nil, api.ErrText
		}
		rest = rest[len(m[0]):]
		top := &open[len(open)-1]
		group := top.Kind == api.ArgGroup
		switch mark := m[6]; {
		case mark == "," && !wanted:
			wanted, first = true, false
			continue
		case mark == "}" && group && (!wanted || first):
			a := *top
			open, wanted, first = closed(open[:len(open)-1], a), false, false
			continue
		case mark == ")" && len(open) == 1 && (!wanted || first):
			if rest != "" {
				return nil, api.ErrText
			}
			return open[0].Kids, api.OK
		case !wanted || mark == "," || mark == "}" || mark == ")" || part && m[4] != "":
			return nil, api.ErrText
		case mark == "&":
			open, first = append(open, api.Arg{Kind: api.ArgPtr}), false
			part = false
			continue
		case mark == "{":
			open, first, part = append(open, api.Arg{Kind: api.ArgGroup}), true, false
			continue
		case m[1] == "@":
			n, _ := strconv.Atoi(m[2])
			open, first = append(open, api.Arg{Kind: api.ArgUnion, Value: n}), false
			part = m[7] == ""
			continue
		}
		a, ok := modelPiece(m)
		if !ok {
			return nil, api.ErrText
		}
		open, wanted, first, part = closed(open, a), false, false, false
	}
	return nil, api.ErrText
}

// closed hands an argument to what it stands in; those that have just one kid are whole then, and are handed on.
func closed(open []api.Arg, a api.Arg) []api.Arg {
	for {
		top := &open[len(open)-1]
		top.Kids = append(top.Kids, a)
		if top.Kind != api.ArgPtr && top.Kind != api.ArgUnion {
			return open
		}
		a = *top
		open = open[:len(open)-1]
	}
}

// modelPiece is an argument of one piece.
func modelPiece(m []string) (api.Arg, bool) {
	switch {
	case m[1] == "r":
		n, _ := strconv.Atoi(m[2])
		return ref(n), true
	case m[3] != "":
		return ptr(), true
	case m[4] != "":
		n, _ := new(big.Int).SetString(m[4], 10)
		bound := new(big.Int).Lsh(big.NewInt(1), 62)
		return value(int(n.Int64())), n.String() == m[4] && n.CmpAbs(bound) <= 0
	}
	b, _ := hex.DecodeString(m[5])
	return data(string(b)), true
}
