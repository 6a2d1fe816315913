package parse_test

import (
	"slices"
	"strconv"
	"strings"

	"dredger/api"
	"dredger/lex"
)

// The model first asks, by all ways through the grammar, how far tokens are the beginning of a description; of one that is whole it then cuts the declarations at their marks.

// ways is where the ways through the grammar have come to.
type ways struct {
	tokens []api.Token
	far    int  // the first token that no way has passed
	deep   bool // it is a name that is nested too deep
	whole  bool
}

// rule hands each place behind what it takes, from a place on and within so many types, to a function.
type rule func(w *ways, at, within int, then func(at int))

func (w *ways) stop(at int, deep bool) {
	if at > w.far {
		w.far, w.deep = at, false
	}
	w.deep = w.deep || deep && at == w.far
}

func token(kind int, texts ...string) rule {
	return func(w *ways, at, within int, then func(int)) {
		if at == len(w.tokens) || w.tokens[at].Kind != kind || len(texts) > 0 && !slices.Contains(texts, w.tokens[at].Text) {
			w.stop(at, false)
			return
		}
		then(at + 1)
	}
}

// marks is several marks, of one byte each.
func marks(text string) rule {
	var rules []rule
	for _, b := range strings.Split(text, "") {
		rules = append(rules, token(api.TokMark, b))
	}
	return all(rules...)
}

// all is rules one behind the other.
func all(rules ...rule) rule {
	if len(rules) == 0 {
		return func(w *ways, at, within int, then func(int)) { then(at) }
	}
	return func(w *ways, at, within int, then func(int)) {
		rules[0](w, at, within, func(at int) { all(rules[1:]...)(w, at, within, then) })
	}
}

// each is every one of rules, from the same place on.
func each(rules ...rule) rule {
	return func(w *ways, at, within int, then func(int)) {
		for _, r := range rules {
			r(w, at, within, then)
		}
	}
}

// many is a rule any number of times.
func many(r rule) rule {
	return func(w *ways, at, within int, then func(int)) {
		each(all(), all(r, many(r)))(w, at, within, then)
	}
}

func maybe(r rule) rule { return each(all(), r) }

func list(r rule) rule { return all(r, many(all(marks(","), many(token(api.TokLine)), r))) }

func modelType(w *ways, at, within int, then func(int)) {
	if at < len(w.tokens) && w.tokens[at].Kind == api.TokName && within == 8 {
		w.stop(at, true)
		return
	}
	number := token(api.TokNumber)
	part := each(number, all(number, marks(":"), number), token(api.TokText), modelType)
	inner := func(w *ways, at, within int, then func(int)) { list(part)(w, at, within+1, then) }
	all(token(api.TokName), maybe(all(marks("["), inner, marks("]"))))(w, at, within, then)
}

func modelDescription(w *ways, at, within int, then func(int)) {
	name, number, line := token(api.TokName), token(api.TokNumber), token(api.TokLine)
	word := func(texts ...string) rule { return token(api.TokName, texts...) }
	fields := list(all(name, modelType))
	decl := each(
		all(word("resource"), name, marks("["), name, marks("]:"), list(number)),
		all(word("flags"), name, marks("="), list(number)),
		all(word("const"), name, marks("="), number),
		all(word("struct", "union"), name, marks("{"), many(line), fields, many(line), marks("}")),
		all(word("call"), name, marks("("), number, marks(")("), many(line), maybe(all(fields, many(line))), marks(")"), maybe(name)),
	)
	all(many(line), maybe(all(decl, many(all(line, many(line), decl)), many(line))))(w, at, within, then)
}

// modelParse is Parse, as the chapter says it.
func modelParse(s string) ([]api.Decl, error) {
	tokens, err := lex.Scan(s)
	if err != nil {
		return nil, err
	}
	w := ways{tokens: tokens}
	modelDescription(&w, 0, 0, func(at int) {
		if at == len(tokens) {
			w.whole = true
		} else {
			w.stop(at, false)
		}
	})
	if w.whole {
		return modelDecls(tokens), nil
	}
	f := api.Fault{At: len(s), Why: api.ErrToken}
	if w.far < len(tokens) {
		f.At = tokens[w.far].At
	}
	if w.deep {
		f.Why = api.ErrDeep
	}
	return nil, f
}

// modelDecls cuts tokens at those lines' ends that are neither within marks nor behind a comma.
func modelDecls(tokens []api.Token) []api.Decl {
	var decls []api.Decl
	var of []api.Token
	depth := 0
	for _, t := range append(slices.Clone(tokens), api.Token{Kind: api.TokLine}) {
		switch {
		case t.Kind != api.TokLine:
			depth += nests(t)
			of = append(of, t)
		case len(of) > 0 && depth == 0 && of[len(of)-1].Text != ",":
			decls = append(decls, modelDecl(of))
			of = nil
		}
	}
	return decls
}

// nests is how much deeper it is behind a token.
func nests(t api.Token) int {
	if t.Kind != api.TokMark {
		return 0
	}
	return map[string]int{"(": 1, "[": 1, "{": 1, ")": -1, "]": -1, "}": -1}[t.Text]
}

// cut cuts tokens at the commas that are within nothing.
func cut(tokens []api.Token) [][]api.Token {
	if len(tokens) == 0 {
		return nil
	}
	pieces := [][]api.Token{nil}
	depth := 0
	for _, t := range tokens {
		depth += nests(t)
		if t.Text == "," && t.Kind == api.TokMark && depth == 0 {
			pieces = append(pieces, nil)
			continue
		}
		last := len(pieces) - 1
		pieces[last] = append(pieces[last], t)
	}
	return pieces
}

func modelDecl(of []api.Token) api.Decl {
	words := map[string]int{"resource": 1, "flags": 2, "const": 3, "struct": 4, "union": 5, "call": 6}
	d := api.Decl{Kind: words[of[0].Text], At: of[0].At, Name: of[1].Text}
	switch d.Kind {
	case 1:
		d.Base, d.Values = of[3].Text, modelNumbers(of[6:])
	case 2:
		d.Values = modelNumbers(of[3:])
	case 3:
		d.Number = of[3].Number
	case 4, 5:
		d.Fields = modelFields(of[3 : len(of)-1])
	case 6:
		d.Number = of[3].Number
		if of[len(of)-1].Kind == api.TokName {
			d.Ret, of = of[len(of)-1].Text, of[:len(of)-1]
		}
		d.Fields = modelFields(of[6 : len(of)-1])
	}
	return d
}

// modelNumbers is all numbers among tokens.
func modelNumbers(of []api.Token) (values []int) {
	for _, t := range of {
		if t.Kind == api.TokNumber {
			values = append(values, t.Number)
		}
	}
	return values
}

func modelFields(of []api.Token) (fields []api.Field) {
	for _, x := range cut(of) {
		fields = append(fields, api.Field{Name: x[0].Text, At: x[0].At, Type: modelExpr(x[1:])})
	}
	return fields
}

func modelExpr(of []api.Token) api.Expr {
	e := api.Expr{At: of[0].At, Name: of[0].Text}
	if len(of) == 1 {
		return e
	}
	for i, x := range cut(of[2 : len(of)-1]) {
		always := len(x) > 1 || e.Name+strconv.Itoa(i+1) == "ptr2" || e.Name+strconv.Itoa(i+1) == "array1"
		switch {
		case x[0].Kind == api.TokNumber:
			e.Values = append(e.Values, modelNumbers(x)...)
		case x[0].Kind == api.TokText:
			e.Texts = append(e.Texts, x[0].Text)
		case always:
			e.Types = append(e.Types, modelExpr(x))
		default:
			e.Names = append(e.Names, x[0].Text)
		}
	}
	return e
}

// modelPrint is Print: words, joined.
func modelPrint(l []api.Decl) string {
	text := ""
	for _, d := range l {
		var words []string
		switch d.Kind {
		case api.DeclResource:
			words = []string{"resource", d.Name, "[", d.Base, "]", ":"}
		case api.DeclFlags:
			words = []string{"flags", d.Name, "="}
		case api.DeclConst:
			words = []string{"const", d.Name, "=", strconv.Itoa(d.Number)}
		case api.DeclStruct:
			words = []string{"struct", d.Name, "{"}
		case api.DeclUnion:
			words = []string{"union", d.Name, "{"}
		case api.DeclCall:
			words = []string{"call", d.Name, "(", strconv.Itoa(d.Number), ")", "("}
		default:
			continue
		}
		if d.Kind == api.DeclResource || d.Kind == api.DeclFlags {
			words = append(words, modelJoin(numbersWritten(d.Values))...)
		}
		var fields []string
		for _, f := range d.Fields {
			fields = append(fields, f.Name+" "+modelPrintExpr(f.Type))
		}
		switch d.Kind {
		case api.DeclStruct, api.DeclUnion:
			words = append(append(words, modelJoin(fields)...), "}")
		case api.DeclCall:
			words = append(append(words, modelJoin(fields)...), ")")
			if d.Ret != "" {
				words = append(words, d.Ret)
			}
		}
		text += strings.Join(words, " ") + "\n"
	}
	return text
}

// modelJoin is items with commas between them, as one word; none, if there is no item.
func modelJoin(items []string) []string {
	if len(items) == 0 {
		return nil
	}
	return []string{strings.Join(items, " , ")}
}

func numbersWritten(values []int) (l []string) {
	for _, v := range values {
		l = append(l, strconv.Itoa(v))
	}
	return l
}

func modelPrintExpr(e api.Expr) string {
	var types, texts []string
	for _, x := range e.Types {
		types = append(types, modelPrintExpr(x))
	}
	for _, s := range e.Texts {
		texts = append(texts, `"`+s+`"`)
	}
	orders := map[string][][]string{
		"ptr":   {e.Names, types},
		"array": {types, numbersWritten(e.Values)},
	}
	order, ok := orders[e.Name]
	if !ok {
		order = [][]string{types, e.Names, texts, numbersWritten(e.Values)}
	}
	parts := slices.Concat(order...)
	if len(parts) == 0 {
		return e.Name
	}
	return e.Name + " [ " + strings.Join(parts, " , ") + " ]"
}
