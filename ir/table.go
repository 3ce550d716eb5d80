package ir

import "dataflow/api"

// The rows of the table of operations. Each one has the number that its operation has in package api.
const (
	rowNop = iota
	rowConst
	rowNull
	rowCopy
	rowBin
	rowInput
	rowNew
	rowLoad
	rowStore
	rowCall
	rowStatic
	rowBranch
	rowJump
	rowReturn
	rowThrow
	rowCatch
	rowShift
	rows
)

// operation is a row: the name of an operation, and a letter for each of the words that follow it in a text. These words are the fields that the operation uses, besides Catch: d is Dst, a is A, b is B, n is N, o is N as an operator, c is Class, m is Name, l is Args, and g is Goto.
type operation struct{ name, words string }

// operations is the table of operations.
var operations = [rows]operation{
	rowNop:    {"nop", ""},
	rowConst:  {"const", "dn"},
	rowNull:   {"null", "d"},
	rowCopy:   {"copy", "da"},
	rowBin:    {"bin", "daob"},
	rowInput:  {"input", "d"},
	rowNew:    {"new", "dc"},
	rowLoad:   {"load", "dam"},
	rowStore:  {"store", "amb"},
	rowCall:   {"call", "dacml"},
	rowStatic: {"static", "dcml"},
	rowBranch: {"branch", "ag"},
	rowJump:   {"jump", "g"},
	rowReturn: {"return", "a"},
	rowThrow:  {"throw", "a"},
	rowCatch:  {"catch", "dc"},
	rowShift:  {"shift", "dan"},
}

// operators has the text of each binary operator.
var operators = [...]string{
	api.OpAdd:   "+",
	api.OpSub:   "-",
	api.OpMul:   "*",
	api.OpLess:  "<",
	api.OpEqual: "==",
}

// isOperation reports whether a number is that of an operation.
func isOperation(op int) bool { return 0 <= op && op < rows }

// isOperator reports whether a number is that of a binary operator.
func isOperator(n int64) bool { return api.OpAdd <= n && n <= api.OpEqual }

// words returns the letters of the fields that an operation uses. An unknown one uses none.
func words(op int) string {
	if !isOperation(op) {
		return ""
	}
	return operations[op].words
}

// field returns the field of an instruction for which a letter stands, as a pointer.
func field(i *api.Instr, letter rune) any {
	switch letter {
	case 'd':
		return &i.Dst
	case 'a':
		return &i.A
	case 'b':
		return &i.B
	case 'g':
		return &i.Goto
	case 'n', 'o':
		return &i.N
	case 'c':
		return &i.Class
	case 'm':
		return &i.Name
	}
	return &i.Args
}
