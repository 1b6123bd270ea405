package print

import (
	"strconv"
	"strings"

	"enthymeme/api"
	"enthymeme/bits"
	"enthymeme/lexer"
)

const (
	opening = "("
	closing = ")"
)

// operationWords returns the words of all operations that are written with one.
func operationWords() map[int]string {
	return map[int]string{
		api.Zero:    "zero",
		api.Not:     "not",
		api.Neg:     "neg",
		api.And:     "and",
		api.Or:      "or",
		api.Xor:     "xor",
		api.Add:     "add",
		api.Mul:     "mul",
		api.Udiv:    "udiv",
		api.Urem:    "urem",
		api.Shl:     "shl",
		api.Lshr:    "lshr",
		api.Ashr:    "ashr",
		api.Ult:     "ult",
		api.Slt:     "slt",
		api.Eq:      "eq",
		api.Ite:     "ite",
		api.Concat:  "concat",
		api.Extract: "extract",
		api.Zext:    "zext",
		api.Sext:    "sext",
		api.Select:  "select",
		api.Store:   "store",
		api.Diff:    "diff",
		api.Len:     "len",
		api.Byte:    "byte",
		api.Cat:     "cat",
		api.Sub:     "sub",
		api.Find:    "find",
		api.Replace: "replace",
		api.In:      "in",
		api.Char:    "char",
	}
}

// sortWords are those of the kinds of sorts.
var sortWords = [...]string{api.BV: "bv", api.Str: "str", api.Arr: "arr", api.Ars: "ars"}

// frameOf returns the frame of the text of a valid node, whose operation has a word if it is written with one.
func frameOf(n api.Node, word string) frame {
	switch n.Op {
	case api.Var:
		return alone(n.Text)
	case api.Num:
		return alone(number(n))
	case api.Text:
		return alone(quoted(n))
	case api.Zero:
		return enclosed(nil, word, sortText(n.Sort))
	case api.Extract:
		return enclosed(n.Kids, word, strconv.Itoa(n.N), strconv.Itoa(n.M))
	case api.Zext, api.Sext, api.Byte:
		return enclosed(n.Kids, word, strconv.Itoa(n.N))
	case api.In:
		return enclosed(n.Kids, word, quoted(n))
	}
	return enclosed(n.Kids, word)
}

// alone returns the frame that is the whole text.
func alone(text string) frame {
	return frame{parts: [...]string{before: text, behind: ""}}
}

// enclosed returns the frame in parentheses with these words before the kids.
func enclosed(kids []int, words ...string) frame {
	return frame{[...]string{before: opening + strings.Join(words, space), behind: closing}, kids}
}

// number returns the text of a Num. The node is valid, and so its number has its width.
func number(n api.Node) string {
	text, _ := bits.Text(n.U, n.Sort.N)
	return text
}

// quoted returns the Text of a node in quotation marks. The node is valid, and so its Text is short enough.
func quoted(n api.Node) string {
	text, _ := lexer.Quote(n.Text)
	return text
}

// sortText returns the text of a valid sort.
func sortText(s api.Sort) string {
	words := []string{sortWords[s.Kind]}
	if s.Kind == api.Arr || s.Kind == api.Ars {
		words = append(words, strconv.Itoa(s.Index))
	}
	words = append(words, strconv.Itoa(s.N))
	return opening + strings.Join(words, space) + closing
}
