package tests

import (
	"go/ast"
	"go/parser"
	"go/token"
	"go/types"
	"path/filepath"
	"strings"
	"testing"
)

// program is what the package impl is made of.
type program struct {
	names []string
	files []*ast.File
	set   *token.FileSet
	info  types.Info
}

// readProgram reads the package impl. Its types can be told without any other
// package, since it imports none.
func readProgram(t *testing.T) program {
	p := program{set: token.NewFileSet(), info: types.Info{Uses: map[*ast.Ident]types.Object{}}}
	names, err := filepath.Glob("../impl/*.go")
	if err != nil || len(names) == 0 {
		t.Fatalf("no files of the program: %v", err)
	}
	for _, name := range names {
		file, err := parser.ParseFile(p.set, name, nil, 0)
		if err != nil {
			t.Fatal(err)
		}
		p.names = append(p.names, filepath.Base(name))
		p.files = append(p.files, file)
	}
	config := types.Config{}
	if _, err := config.Check("impl", p.set, p.files, &p.info); err != nil {
		t.Fatal(err)
	}
	return p
}

// TestLanguage looks for what the permitted part of Go does not have.
func TestLanguage(t *testing.T) {
	p := readProgram(t)
	for _, file := range p.files {
		for n := range ast.Preorder(file) {
			if what := forbidden(n); what != "" {
				t.Errorf("%v: %s", p.set.Position(n.Pos()), what)
			}
		}
		for _, d := range file.Decls {
			if what := forbiddenDeclaration(d); what != "" {
				t.Errorf("%v: %s", p.set.Position(d.Pos()), what)
			}
		}
		checkFunctionsAreCalled(t, p, file)
	}
}

// forbiddenDeclaration tells what is wrong with a declaration of a file.
func forbiddenDeclaration(d ast.Decl) string {
	switch d := d.(type) {
	case *ast.GenDecl:
		if d.Tok == token.VAR {
			return "a package-level variable"
		}
	case *ast.FuncDecl:
		if d.Recv == nil && d.Name.Name == "init" {
			return "func init"
		}
	}
	return ""
}

// forbidden tells what is wrong with a part of a file.
func forbidden(n ast.Node) string {
	switch n := n.(type) {
	case *ast.ImportSpec:
		return "an import"
	case *ast.InterfaceType, *ast.TypeSwitchStmt, *ast.TypeAssertExpr:
		return "an interface"
	case *ast.MapType:
		return "a map"
	case *ast.FuncLit:
		return "a closure"
	case *ast.GoStmt, *ast.ChanType, *ast.SendStmt, *ast.SelectStmt, *ast.DeferStmt:
		return "a goroutine, channel, select or defer"
	case *ast.BranchStmt:
		if n.Tok == token.GOTO {
			return "goto"
		}
	case *ast.FuncType:
		if n.TypeParams != nil {
			return "a generic function"
		}
	case *ast.TypeSpec:
		if n.TypeParams != nil {
			return "a generic type"
		}
	case *ast.SliceExpr:
		if n.Slice3 {
			return "a slice expression with three indexes"
		}
	case *ast.BasicLit:
		if n.Kind == token.FLOAT || n.Kind == token.IMAG {
			return "a float or a complex number"
		}
	case *ast.AssignStmt:
		return forbiddenAssignment(n)
	case *ast.BinaryExpr:
		if isName(n.X, "nil") || isName(n.Y, "nil") {
			return "a comparison with nil"
		}
	case *ast.Ident:
		return forbiddenName(n.Name)
	}
	return ""
}

// forbiddenAssignment tells what is wrong with an assignment.
func forbiddenAssignment(n *ast.AssignStmt) string {
	for _, left := range n.Lhs {
		if _, plain := left.(*ast.Ident); len(n.Lhs) > 1 && !plain {
			return "an assignment of several values to elements or fields"
		}
	}
	return ""
}

// forbiddenName tells what is wrong with a name.
func forbiddenName(name string) string {
	switch name {
	case "any", "error", "recover", "panic", "cap", "unsafe":
		return name
	case "float32", "float64", "complex64", "complex128", "complex", "real", "imag":
		return name
	}
	return ""
}

// isName reports whether an expression is a name.
func isName(x ast.Expr, name string) bool {
	id, ok := x.(*ast.Ident)
	return ok && id.Name == name
}

// checkFunctionsAreCalled checks that each function that is named is called, or
// declared, and so is no value, and that no type of a function stands elsewhere.
func checkFunctionsAreCalled(t *testing.T, p program, file *ast.File) {
	named := 0
	called := 0
	functionTypes := 0
	declared := 0
	for n := range ast.Preorder(file) {
		switch n := n.(type) {
		case *ast.Ident:
			if p.isFunction(n) {
				named++
			}
		case *ast.CallExpr:
			if id := calledName(n); id != nil && p.isFunction(id) {
				called++
			}
		case *ast.FuncType:
			functionTypes++
		case *ast.FuncDecl:
			declared++
		}
	}
	if named != called || functionTypes != declared {
		t.Errorf("%s: a function, or a method, is used as a value", p.set.Position(file.Pos()).Filename)
	}
}

// isFunction reports whether a name is that of a declared function or method.
func (p program) isFunction(id *ast.Ident) bool {
	_, ok := p.info.Uses[id].(*types.Func)
	return ok
}

// calledName returns the name of what is called, nil if it has none.
func calledName(n *ast.CallExpr) *ast.Ident {
	switch f := n.Fun.(type) {
	case *ast.Ident:
		return f
	case *ast.SelectorExpr:
		return f.Sel
	}
	return nil
}

// TestWays looks for what the section "Ways" says of the chapters that are done:
// bit sets of needs, one pass over an order, counts of open needs and a heap, a
// struct with counters, a queue of events, a search that goes into branches and has a
// bound, steps from delay to delay, a state for each task, a heap of users, marks that
// go forward in an order, a machine that goes from state to state by events, running
// sums, levels by counts, a search that halves, parts of texts and a builder, and
// commands. The heaps, the steps, the parts and the builder are the program's own, and
// commands stand in a switch, since it imports nothing and has no closures and no maps.
func TestWays(t *testing.T) {
	p := readProgram(t)
	if !p.usesOperator("l1_graph.go", token.SHL) || !p.usesOperator("l1_graph.go", token.AND) {
		t.Error("graphs have no bit sets of needs")
	}
	if !p.callsFunction("l2_weight.go", "TopOrder") {
		t.Error("weights do not pass over an order")
	}
	if !p.callsFunction("l3_ready.go", "openNeeds") || !p.declaresStruct("l3_ready.go", "readyHeap") {
		t.Error("ready tasks have no counts of open needs, or no heap")
	}
	if !p.declaresStruct("l4_pool.go", "poolCounter") {
		t.Error("pools have no struct with counters")
	}
	if !p.declaresStruct("l5_schedule.go", "taskEnd") || !p.declaresStruct("l5_schedule.go", "endQueue") {
		t.Error("schedules have no queue of events")
	}
	if !p.callsItself("l6_best.go", "bestOf") || !p.callsFunction("l6_best.go", "LeastTime") {
		t.Error("the best schedule is not looked for in branches, or without a bound")
	}
	if !p.declaresStruct("l7_tries.go", "furtherTry") || !p.callsMethod("l7_tries.go", "next") {
		t.Error("tries do not go through the delays")
	}
	if !p.declaresStruct("l8_failure.go", "outcomeStates") || !p.callsFunction("l8_failure.go", "TopOrder") {
		t.Error("failures have no state for each task")
	}
	if !p.declaresStruct("l9_fair.go", "userHeap") || !p.callsMethod("l9_fair.go", "settled") {
		t.Error("fair shares have no heap of users")
	}
	if !p.callsFunction("l10_stale.go", "markStale") || !p.callsFunction("l10_stale.go", "TopOrder") {
		t.Error("stale tasks have no marks that go forward")
	}
	if !p.declaresStruct("l11_log.go", "logState") || !p.callsMethod("l11_log.go", "after") {
		t.Error("logs have no machine of states")
	}
	if !p.declaresStruct("l12_estimate.go", "timeSums") || !p.callsMethod("l12_estimate.go", "with") {
		t.Error("estimates have no running sums")
	}
	if !p.callsFunction("l13_stage.go", "nextStage") || !p.callsFunction("l13_stage.go", "openNeeds") {
		t.Error("stages have no levels by counts")
	}
	if !p.callsFunction("l14_deadline.go", "leastWorkers") || !p.usesOperator("l14_deadline.go", token.QUO) {
		t.Error("deadlines have no search over workers that halves their numbers")
	}
	if !p.callsFunction("l15_text.go", "partsOf") || !p.declaresStruct("l15_text.go", "textBuilder") {
		t.Error("texts have no parts, or no builder")
	}
	if !p.declaresStruct("l16_session.go", "session") || !p.switchesOver("l16_session.go", "finish", "plan") || !p.switchesOver("l16_session.go", "ready", "left", "chain") {
		t.Error("sessions do not tell commands apart by their words")
	}
}

// switchesOver reports whether a file has a switch whose cases are some texts.
func (p program) switchesOver(name string, cases ...string) bool {
	for i, file := range p.files {
		for n := range ast.Preorder(file) {
			s, ok := n.(*ast.SwitchStmt)
			if ok && p.names[i] == name && sameLines(casesOf(s), cases...) {
				return true
			}
		}
	}
	return false
}

// casesOf returns the texts of the cases of a switch, in order.
func casesOf(s *ast.SwitchStmt) []string {
	list := []string{}
	for _, clause := range s.Body.List {
		for _, x := range clause.(*ast.CaseClause).List {
			if lit, ok := x.(*ast.BasicLit); ok && lit.Kind == token.STRING {
				list = append(list, strings.Trim(lit.Value, `"`))
			}
		}
	}
	return list
}

// callsItself reports whether a function or method of a file calls itself.
func (p program) callsItself(name string, function string) bool {
	for i, file := range p.files {
		for _, d := range file.Decls {
			f, ok := d.(*ast.FuncDecl)
			if !ok || p.names[i] != name || f.Name.Name != function {
				continue
			}
			for n := range ast.Preorder(f.Body) {
				if call, ok := n.(*ast.CallExpr); ok && calledName(call) != nil && calledName(call).Name == function {
					return true
				}
			}
		}
	}
	return false
}

// declaresStruct reports whether a file declares a struct with a name.
func (p program) declaresStruct(name string, structure string) bool {
	for i, file := range p.files {
		for n := range ast.Preorder(file) {
			spec, ok := n.(*ast.TypeSpec)
			if !ok || p.names[i] != name || spec.Name.Name != structure {
				continue
			}
			_, isStruct := spec.Type.(*ast.StructType)
			return isStruct
		}
	}
	return false
}

// usesOperator reports whether a file has a binary operator.
func (p program) usesOperator(name string, operator token.Token) bool {
	for i, file := range p.files {
		for n := range ast.Preorder(file) {
			if b, ok := n.(*ast.BinaryExpr); ok && p.names[i] == name && b.Op == operator {
				return true
			}
		}
	}
	return false
}

// callsMethod reports whether a file calls a method with a name.
func (p program) callsMethod(name string, method string) bool {
	for i, file := range p.files {
		for n := range ast.Preorder(file) {
			call, ok := n.(*ast.CallExpr)
			if !ok || p.names[i] != name {
				continue
			}
			if f, ok := call.Fun.(*ast.SelectorExpr); ok && f.Sel.Name == method {
				return true
			}
		}
	}
	return false
}

// callsFunction reports whether a file calls a function.
func (p program) callsFunction(name string, function string) bool {
	for i, file := range p.files {
		for n := range ast.Preorder(file) {
			if call, ok := n.(*ast.CallExpr); ok && p.names[i] == name && isName(call.Fun, function) {
				return true
			}
		}
	}
	return false
}
