package filter_test

import (
	"go/ast"
	"go/parser"
	"go/token"
	"path/filepath"
	"slices"
	"strings"
	"testing"
)

// The library's tables of all letters are greater than a table may be: nothing in the program asks for great and small letters by way of them.
func TestNoTablesOfAllLetters(t *testing.T) {
	files, _ := filepath.Glob("../*/*.go")
	looked := 0
	for _, file := range files {
		if strings.HasSuffix(file, "_test.go") || strings.Contains(file, "sharedtests") {
			continue
		}
		looked++
		set := token.NewFileSet()
		parsed, err := parser.ParseFile(set, file, nil, 0)
		if err != nil {
			t.Fatal(err)
		}
		ast.Inspect(parsed, func(n ast.Node) bool {
			if call, ok := n.(*ast.SelectorExpr); ok && leansOnTables(call) {
				t.Errorf("%v: %s", set.Position(call.Pos()), call.Sel.Name)
			}
			return true
		})
	}
	if looked < 30 {
		t.Errorf("only %d files were looked at", looked)
	}
}

func leansOnTables(call *ast.SelectorExpr) bool {
	from, ok := call.X.(*ast.Ident)
	if !ok {
		return false
	}
	switch from.Name {
	case "unicode":
		return true
	case "strings", "bytes":
		return slices.Contains([]string{"EqualFold", "ToLower", "ToUpper", "ToTitle", "Title", "ToLowerSpecial", "ToUpperSpecial", "ToTitleSpecial"}, call.Sel.Name)
	}
	return false
}
