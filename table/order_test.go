package table

import (
	"go/ast"
	"go/parser"
	"go/token"
	"path/filepath"
	"strings"
	"testing"
)

// The language leaves open whether a variable that stands beside calls in a statement is read ahead of them or behind them: what a table tells may not hang on that. A compiler takes one of the two, so only the text of the program shows it.
func TestNoReadBesideCalls(t *testing.T) {
	files, err := filepath.Glob("*.go")
	if err != nil || len(files) == 0 {
		t.Fatalf("no files: %v", err)
	}
	fset := token.NewFileSet()
	calls := 0
	for _, name := range files {
		if strings.HasSuffix(name, "_test.go") {
			continue
		}
		f, err := parser.ParseFile(fset, name, nil, 0)
		if err != nil {
			t.Fatal(err)
		}
		ast.Inspect(f, func(n ast.Node) bool {
			for _, part := range parts(n) {
				called, read := ofCursor(part)
				calls += called
				if called > 0 && read > 0 {
					t.Errorf("%s: a cursor's rest is read beside calls of the cursor", fset.Position(part.Pos()))
				}
			}
			return true
		})
	}
	if calls < 6 {
		t.Errorf("%d calls of a cursor were found: this tries nothing", calls)
	}
}

// parts is what of a statement is gone through in one, if it is one that has no others in it, or is the head of some.
func parts(n ast.Node) []ast.Node {
	switch s := n.(type) {
	case *ast.AssignStmt, *ast.ReturnStmt, *ast.ExprStmt, *ast.IncDecStmt, *ast.DeclStmt, *ast.SendStmt, *ast.DeferStmt, *ast.GoStmt:
		return []ast.Node{s}
	case *ast.IfStmt:
		return []ast.Node{s.Cond}
	case *ast.RangeStmt:
		return []ast.Node{s.X}
	case *ast.ForStmt:
		if s.Cond != nil {
			return []ast.Node{s.Cond}
		}
	case *ast.SwitchStmt:
		if s.Tag != nil {
			return []ast.Node{s.Tag}
		}
	}
	return nil
}

// ofCursor counts in a part of a statement the calls that change a cursor, and the reads of what they change.
func ofCursor(part ast.Node) (called, read int) {
	ast.Inspect(part, func(n ast.Node) bool {
		switch x := n.(type) {
		case *ast.FuncLit:
			return false // its statements are parts of their own
		case *ast.CallExpr:
			if f, ok := x.Fun.(*ast.SelectorExpr); ok && (f.Sel.Name == "take" || f.Sel.Name == "number") {
				called++
			}
		case *ast.SelectorExpr:
			if x.Sel.Name == "rest" {
				read++
			}
		}
		return true
	})
	return called, read
}

// A row's end is where the next one begins: of each entry, in tables of few and of many.
func TestRowsFollow(t *testing.T) {
	for what, l := range map[string][]Entry{
		"two":            rowsOf("a 1 b 2"),
		"one is gone":    rowsOf("a 1 b - c 3"),
		"several blocks": numbered(100, 5),
	} {
		s := built(t, l)
		o, e := Open(s)
		if e != 0 {
			t.Fatalf("Open, %s: error %d", what, e)
		}
		at := 0
		for _, wanted := range l {
			got, behind, ok := o.at(at)
			if !ok || got != wanted || behind != at+len(row(nil, wanted)) {
				t.Errorf("%s: at %d %v, %d, %v; not %v", what, at, got, behind, ok, wanted)
			}
			at = behind
		}
		if got, behind, ok := o.at(at); ok || got != (Entry{}) || behind != 0 {
			t.Errorf("%s: behind all rows %v, %d, %v", what, got, behind, ok)
		}
	}
}
