package parse_test

import (
	"strings"
	"testing"

	"enthymeme/api"
	"enthymeme/lexer"
)

// before declares variables of all kinds, and defines macros.
const before = "(declare a (bv 8))(declare b (bv 8))(declare p (bv 1))(declare s (str 9))(declare u (str 5))(declare f (arr 4 8))(define (m) p)(define (n (x (bv 8)) (y (bv 8))) (ult x y))(define (o (x (str 5))) (len x))"

// P10.2: errors of tokens come before all others.
func TestTokenErrors(t *testing.T) {
	failing(t, "", api.ErrForm, "^A", "(assert p q) ^A", ")))^_", "(foo ^01)", "(declare a ^8a)", "(check 1099511627777)(push) \"^\n\"", "x y z ^#b2", "(assert p (in \"[\" ^[", "(assert ^P q)")
	failing(t, "", api.ErrName, "(foo) ^abcdefghijklmnopq", "(declare ^abcdefghijklmnopq (bv 1))", "(assert p q) (retract ^a1234567890123456)")
	failing(t, "", api.ErrLimit, ") ^99999999999999", "(check ^10000000000000)", "(assert p q ^#x00000000000000000)", "(foo "+strings.Repeat(" ", 65531)+"^ ", strings.Repeat("A", 65536)+"^A")
	failing(t, "", api.ErrMore, ") \"^", "(assert p q) \"\\x0^", "(declare a (bv 0)) \"a^")
	for _, s := range []string{"(a (b) A", "(foo 01 #b", "(assert p \"", "\"\\n", "#x", strings.Repeat("(", 65537)} {
		_, at, e := lexer.Tokens(s)
		fails(t, s, at, e)
	}
}

// P10.2: ErrMore, where the grammar needs another token at the end.
func TestMore(t *testing.T) {
	failing(t, before, api.ErrMore, "(^", "( ^", "(;^", " (\n ^", "(push)(^",
		"(declare^", "(declare c^", "(declare c ^", "(declare c (^", "(declare c (bv^", "(declare c (bv 8^", "(declare c (bv 8)^", "(declare c (str^", "(declare c (str 8 ^", "(declare c (arr^", "(declare c (arr 4^", "(declare c (arr 4 8^", "(declare c (arr 4 8)^", "(declare c (ars 4 8^", "(declare c (bv 0^", "(declare a1 (bv^",
		"(define^", "(define (^", "(define (c^", "(define (c)^", "(define (c (^", "(define (c (x^", "(define (c (x (bv 8^", "(define (c (x (bv 8)^", "(define (c (x (bv 8))^", "(define (c (x (bv 8)) (^", "(define (c (x (bv 8)))^", "(define (c) x^", "(define (c) 5^", "(define (c) (^", "(define (c) (x^", "(define (c) (x (y) \"z\" 5 #b1^", "(define (c) ((((^", "(define (c) (()()^", "(define (c) (())^", "(define (c) \"(\"^",
		"(assert^", "(assert q^", "(assert q p^", "(assert q (^", "(assert q (not^", "(assert q (not p^", "(assert q (not p)^", "(assert q (n^", "(assert q (n a^", "(assert q (n a b^", "(assert q (n a b)^", "(assert q m^", "(assert q (m^", "(assert q (m)^", "(edit^", "(edit q^", "(edit q p^", "(retract^", "(retract q^", "(push^", "(pop^", "(check^", "(check 5^",
		"(assert q (num^", "(assert q (num 1^", "(assert q (num 1 1^", "(assert q (zero^", "(assert q (zero (^", "(assert q (zero (arr 4 8)^", "(assert q (extract^", "(assert q (extract 0^", "(assert q (extract 0 0^", "(assert q (extract 0 0 p^", "(assert q (zext^", "(assert q (zext 1^", "(assert q (zext 1 p^", "(assert q (sext^", "(assert q (sext 1^", "(assert q (byte^", "(assert q (byte 0^", "(assert q (byte 0 s^", "(assert q (in^", "(assert q (in \"'a'\"^", "(assert q (in \"'a'\" s^",
		"(assert q (ite^", "(assert q (ite p^", "(assert q (ite p a^", "(assert q (ite p a b^", "(assert q (store f^", "(assert q (and (or p p)^", "(assert q (not (not (not p))^")
	for _, word := range words[4:] {
		failing(t, before, api.ErrMore, "(assert q ("+word+"^", "(edit q (not ("+word+" ^")
	}
}

// P10.2: ErrForm, where the grammar does not go on with a token.
func TestForm(t *testing.T) {
	failing(t, before, api.ErrForm, "^)", "^a", "^declare", "^5", "^#b1", "^\"\"", "(push)^)", "(push) ^push", "(push) ^5 (pop)",
		"(^)", "(^(", "(^5", "(^#b1", "(^\"push\"", "(^foo)", "(^foo", "(^not p)", "(^m)", "(^a)", "(^bv 8)", "(^declar c (bv 8))", "(^pushes)", "(^end)", "(^x (y))",
		"(declare ^)", "(declare ^(c (bv 8)))", "(declare ^5 (bv 8))", "(declare ^\"c\" (bv 8))", "(declare ^#b1 (bv 8))", "(declare c ^)", "(declare c ^bv 8)", "(declare c ^8)", "(declare c (^))", "(declare c (^8))", "(declare c (^(bv 8)))", "(declare c (^\"bv\" 8))", "(declare c (^bits 8))", "(declare c (^bv8))", "(declare c (^a 8))", "(declare c (^num 8))", "(declare c (^array 4 8))", "(declare c (bv ^))", "(declare c (bv ^a))", "(declare c (bv ^#b1))", "(declare c (bv ^\"8\"))", "(declare c (bv ^(8)))", "(declare c (bv 8 ^8))", "(declare c (bv 0 ^0))", "(declare c (str ^))", "(declare c (str 8 ^4))", "(declare c (arr ^))", "(declare c (arr 4^))", "(declare c (arr 0^))", "(declare c (arr 4 ^a))", "(declare c (arr 4 8 ^1))", "(declare c (ars 4^))", "(declare c (ars 4 8 ^(", "(declare c (bv 8) ^8)", "(declare c (bv 8) ^(", "(declare c (bv 8)^d)",
		"(define ^)", "(define ^c p)", "(define ^5", "(define (^) p)", "(define (^(c)) p)", "(define (^5) p)", "(define (^\"c\") p)", "(define (c ^x) p)", "(define (c ^5) p)", "(define (c ^\"x\"", "(define (c (^)) p)", "(define (c (^(x (bv 8)))) p)", "(define (c (^8 x)) p)", "(define (c (x ^)) p)", "(define (c (x ^bv 8)) p)", "(define (c (x (bv 8) ^8)) p)", "(define (c (x (bv 8)) ^x) p)", "(define (c (x (^foo 8))) p)", "(define (c (x (bv 8)) (^5", "(define (c)^)", "(define (c (x (bv 8)))^)", "(define (c) p ^p)", "(define (c) 5 ^5)", "(define (c) p ^(", "(define (c) (p) ^p)", "(define (c) () ^()", "(define (c) (()) ^5)", "(define (c) \"a\" ^\"b\")",
		"(assert ^)", "(assert ^(q) p)", "(assert ^5 p)", "(assert ^\"q\" p)", "(assert q^)", "(assert q ^5)", "(assert q ^0)", "(assert q p ^p)", "(assert q p ^(", "(assert q p ^5)", "(assert q #b1 ^#b1)", "(assert q (not p) ^p)", "(edit ^)", "(edit q^)", "(edit q ^5)", "(edit q p ^p)", "(edit q m ^m)", "(retract ^)", "(retract ^5)", "(retract ^(q))", "(retract q ^q)", "(retract q ^(", "(push ^5)", "(push ^q)", "(push ^(", "(pop ^1)", "(pop ^\"\"", "(check ^)", "(check ^a)", "(check ^#b1)", "(check ^\"5\")", "(check ^(5))", "(check 5 ^5)", "(check 5 ^(",
		"(assert q (^))", "(assert q (^(not p)))", "(assert q (^5))", "(assert q (^#b1))", "(assert q (^\"not\" p))", "(assert q (not^))", "(assert q (not ^5))", "(assert q (not p ^p))", "(assert q (not p ^5))", "(assert q (and p^))", "(assert q (and p p ^p))", "(assert q (ite p a^))", "(assert q (ite p a b ^a))", "(assert q (eq ^0 0))", "(assert q (ult a ^0))",
		"(assert q (m ^p))", "(assert q (m ^()", "(assert q (m ^5))", "(assert q (n^))", "(assert q (n a^))", "(assert q (n a b ^b))", "(assert q (n a b ^(", "(assert q (n a ^5))", "(assert q (n ^5 a))", "(assert q (n a b ^\"\"", "(assert q (n p p ^p))",
		"(assert q (num^))", "(assert q (num ^a))", "(assert q (num ^#b1 1))", "(assert q (num 1^))", "(assert q (num 1 ^#b1))", "(assert q (num 1 ^a))", "(assert q (num 1 1 ^1))", "(assert q (num 2 1 ^p))", "(assert q (zero^))", "(assert q (zero ^8))", "(assert q (zero ^f))", "(assert q (zero (^)))", "(assert q (zero (^zero (bv 8))))", "(assert q (zero (arr 4 8) ^f))", "(assert q (zero (bv 8) ^f))",
		"(assert q (extract^))", "(assert q (extract ^p 0 0))", "(assert q (extract 0^))", "(assert q (extract 0 ^p))", "(assert q (extract 0 0^))", "(assert q (extract 0 0 ^0))", "(assert q (extract 0 0 p ^p))", "(assert q (extract ^(num 0 1) 0 p))", "(assert q (zext ^p))", "(assert q (zext ^p 1))", "(assert q (zext 1 ^1))", "(assert q (sext ^#b1 p))", "(assert q (byte ^s))", "(assert q (byte ^s 0))", "(assert q (byte 0 ^0 s))", "(assert q (byte 0 s ^s))", "(assert q (in ^s))", "(assert q (in ^s \"'a'\"))", "(assert q (in ^5 s))", "(assert q (in ^(\"'a'\") s))", "(assert q (in \"'a'\"^))", "(assert q (in \"'a'\" ^5))", "(assert q (in \"'a'\" s ^s))")
	for word, form := range forms {
		whole := map[string]string{"integer": "0", "sort": "(arr 4 8)", "quoted": `"'a'"`, "term": "p", ")": ""}
		text := "(assert q (" + word
		for part := range strings.FieldsSeq(form) {
			for wrong, parts := range map[string]string{")": ")", "5": "integer", "p": "term", "#b1": "term", `"'b'"`: "term quoted", "(": "term sort"} {
				if !strings.Contains(parts, part) {
					failing(t, before, api.ErrForm, text+" ^"+wrong)
				}
			}
			text += " " + whole[part]
		}
	}
}

// P10.2: bodies are not examined when they are skipped, but when they are read.
func TestBodies(t *testing.T) {
	for _, body := range []string{"5", "c", "x", "#b1", "\"\"", "()", "(5)", "(())", "(()5\"\"#b1(c)x)", "(declare 5)", "(define (m) p)", "(in \"[\" 0)", "(zero (bv 0))", strings.Repeat("(", 100) + strings.Repeat(")", 100), "((((p)))(n)(m m))"} {
		script(t, before+"(define (c)"+body+")(define (d (x (bv 8)))"+body+")")
	}
	failing(t, before, api.ErrForm, "(define (c) ^5)(assert q c)", "(define (c) ^5)(assert q (c))", "(define (c) (^))(assert q c)", "(define (c) (^5))(assert q c)", "(define (c) (^(not p)))(assert q c)", "(define (c) (not^))(assert q c)", "(define (c) (not p ^p))(assert q c)", "(define (c) (not ^5))(assert q c)", "(define (c) (not (not ^5)))(assert q c)", "(define (c (x (bv 1))) (and x^))(assert q (c p))", "(define (c) (not (^() p)))(assert q c)", "(define (c) (in ^\"(\" s))(assert q c)", "(define (c) (num 1 ^x))(assert q c)",
		// What follows a body is not read with it, and what follows its macro is read where it stands.
		"(define (c) p)(assert q (not c ^c))", "(define (c) (not p))(assert q (and c^))")
	failing(t, before, api.ErrName, "(define (c) ^d)(assert q c)", "(define (c) (^d))(assert q c)", "(define (c) (not ^d))(assert q (c))", "(define (c) (^declare d (bv 8)))(assert q c)", "(define (c) (and p ^x))(define (d (x (bv 1))) c)(assert q (d p))", "(define (c (x (bv 1))) ^y)(assert q (c p))")
	failing(t, before, api.ErrSort, "(define (c) ^(not s))(assert q c)", "(define (c) (not ^(not s)))(assert q c)", "(define (c (x (bv 8))) ^(and x p))(assert q (c a))", "(define (c) (zero ^(bv 0)))(assert q c)", "(define (c) ^(zero (bv 8)))(assert q c)", "(define (c) ^(n a p))(assert q c)")
	failing(t, before, api.ErrRange, "(define (c) ^(num 2 1))(assert q c)", "(define (c) ^\""+strings.Repeat("a", 65)+"\")(assert q c)", "(define (c) (eq s ^(cat \""+strings.Repeat("a", 60)+"\" s)))(assert q c)")
	// Each time it is read: what it names need not be there before.
	failing(t, before, api.ErrName, "(define (c) (not ^d))(assert q c)(declare d (bv 1))")
	script(t, before+"(define (c) (not d))(declare d (bv 1))(assert q c)")
}

// P10.2: ErrName, for names that stand for nothing.
func TestUnknown(t *testing.T) {
	failing(t, "", api.ErrName, "(assert p ^q)", "(assert p ^p)", "(assert p ^assert)", "(edit p ^q)", "(assert p (not ^q))", "(assert p (^q))", "(assert p (^q 5 \"\" ()))", "(assert p (^p #b1))", "(assert p (^declare))", "(assert q (^nots q))", "(assert q ^not)", "(assert q ^num)", "(assert q (^text))", "(assert q (^var))", "(assert p ^q", "(assert p (^q", "(assert p (^q)", "(assert p (^q (")
	failing(t, before, api.ErrName, "(assert q ^c)", "(assert q (and p ^c))", "(assert q (and ^c d))", "(assert q (ult (add a ^c) 5))", "(assert q (^c))", "(assert q (^p))", "(assert q (^a b))", "(assert q (^x a b))", "(assert q ^x)", "(assert q ^n)", "(assert q (not ^n))", "(assert q ^o)", "(assert q (^m1))",
		// Macros are known from their ends on, in bodies only to later ones.
		"(assert q ^c)(define (c) p)", "(define (c) ^c)(assert q c)", "(define (c) (^c))(assert q c)", "(define (c (x (bv 1))) (^c x))(assert q (c p))", "(define (c) ^d)(define (d) p)(assert q c)", "(define (c) (not (^d)))(define (d) p)(assert q (c))", "(define (c (x (bv 1))) (^d x))(define (d (x (bv 1))) x)(assert q (c p))", "(define (c) ^d)(define (d) p)(define (e) c)(assert q d)(assert q e)", "(define (c) p)(define (d) (and c ^e))(define (e) c)(assert q (and c (and e d)))",
		// Parameters are known in their own bodies alone.
		"(define (c (x (bv 1))) x)(assert q ^x)", "(define (c (x (bv 1))) x)(assert q (c ^x))", "(define (c (x (bv 1))) x)(assert q (and (c p) ^x))", "(define (c) ^x)(define (d (x (bv 1))) (and x c))(assert q (d p))", "(define (c (y (bv 1))) (and y ^x))(define (d (x (bv 1))) (c x))(assert q (d p))", "(define (c (x (bv 1))) x)(define (d (y (bv 1))) (and (c y) ^x))(assert q (d p))", "(define (c (x (bv 1))) (^x))(assert q (c p))", "(define (c (x (bv 1))) (^x p))(assert q (c p))", "(define (c (m (bv 8)) (x (bv 1))) (^x m))(assert q (c a p))",
		// A macro of parameters is nothing alone, even if its name is that of a parameter elsewhere.
		"(define (c (x (bv 1))) x)(assert q ^c)", "(define (c (c (bv 1))) c)(assert q (and (c p) ^c))", "(define (c (x (bv 1))) x)(define (d) ^c)(assert q d)")
}

// P10.2: ErrTwice, for names of variables, macros and parameters that are taken.
func TestTwice(t *testing.T) {
	failing(t, before, api.ErrTwice, "(declare ^a (bv 8))", "(declare ^a (bv 1))", "(declare ^m (bv 8))", "(declare ^n (bv 8))", "(declare ^o (str 5))", "(define (^a) p)", "(define (^m) p)", "(define (^n) p)", "(define (^n (x (bv 8)) (y (bv 8))) (ult x y))", "(define (^p (x (bv 8))) x)",
		"(declare c (bv 1))(declare ^c (bv 1))", "(define (c) 5)(define (^c) 5)", "(define (c) 5)(declare ^c (bv 1))", "(declare not (bv 1))(define (^not) p)", "(declare not (bv 1))(declare ^not (bv 1))", "(declare num (bv 1))(define (^num",
		"(define (c (x (bv 8)) (^x (bv 8))) x)", "(define (c (x (bv 8)) (^x (str 5))) x)", "(define (c (x (bv 8)) (y (bv 8)) (^x (bv 8))) x)", "(define (c (x (bv 8)) (y (bv 8)) (^y (bv 8))) x)", "(define (c (not (bv 8)) (^not (bv 8))) x)",
		// At once.
		"(declare ^a", "(declare ^a)", "(declare ^a 5", "(declare ^a (bv 0))", "(define (^a", "(define (^a 5", "(define (^m (x (bv 0)", "(define (c (x (bv 8)) (^x", "(define (c (x (bv 8)) (^x 5", "(define (c (x (bv 8)) (^x (bv 0)")
	// Parameters can have names of variables, macros, and of their own macro, and those of other macros.
	script(t, before+"(define (c (a (bv 8)) (m (bv 8)) (c (bv 8)) (x (bv 8)) (not (bv 8))) x)(define (d (x (bv 8))) x)(declare x (bv 1))(declare y (bv 1))(declare not (bv 1))(declare c1 (bv 1))")
}

// P10.2: ErrName, for macros with the words of operations.
func TestMacroNames(t *testing.T) {
	for word := range forms {
		failing(t, before, api.ErrName, "(define (^"+word+") p)", "(define (^"+word+" (x (bv 8))) p)", "(define (^"+word, "(define (^"+word+" 5", "(define (^"+word+" (x (bv 0)")
		failing(t, before+"(declare "+word+" (bv 1))", api.ErrTwice, "(define (^"+word+") p)", "(declare ^"+word+" (bv 1))")
	}
}

// P10.2: ErrSort, for sorts that are not valid.
func TestSorts(t *testing.T) {
	for _, s := range []string{"(bv 0)", "(bv 65)", "(bv 9999999999999)", "(str 65)", "(str 9999999999999)", "(arr 0 8)", "(arr 17 8)", "(arr 4 0)", "(arr 4 65)", "(arr 64 8)", "(ars 0 8)", "(ars 17 8)", "(ars 4 65)", "( arr\n0 ;\n0 )"} {
		failing(t, before, api.ErrSort, "(declare c ^"+s+")", "(declare c ^"+s, "(declare c ^"+s+" 5", "(define (c (x ^"+s+")) p)", "(define (c (x ^"+s, "(define (c (x (bv 1)) (y ^"+s+" (", "(assert q (zero ^"+s+"))", "(assert q (eq (zero (arr 1 1)) (zero ^"+s, "(assert q (zero ^"+s+" 5")
		unclosed := strings.TrimRight(strings.TrimSuffix(s, ")"), " ")
		failing(t, before, api.ErrMore, "(declare c "+unclosed+"^", "(define (c (x "+unclosed+" ^", "(assert q (zero "+unclosed+"^")
		failing(t, before, api.ErrForm, "(declare c "+unclosed+" ^a", "(assert q (zero "+unclosed+" ^1)))")
	}
}

// P10.2: ErrSort, for terms that do not have the sorts of parameters.
func TestArguments(t *testing.T) {
	failing(t, before, api.ErrSort, "(assert q ^(n p a))", "(assert q ^(n a p))", "(assert q ^(n p p))", "(assert q ^(n s u))", "(assert q (not ^(n a #b1)))", "(assert q (eq a ^(n a f)))", "(assert q (eq #b0000000 ^(o s)))", "(assert q (eq #b0000000 ^(o \"abc\")))", "(assert q (eq #b0000000 ^(o \"abcdef\")))", "(assert q ^(n a (num 0 7)))", "(assert q ^(n (len u) a))", "(assert q (n a ^(n a s)))", "(assert q ^(n (n a b) b))",
		"(define (c (x (arr 4 8))) p)(assert q ^(c (zero (arr 4 7))))", "(define (c (x (arr 4 8))) p)(assert q ^(c (zero (arr 5 8))))", "(define (c (x (arr 4 8))) p)(assert q ^(c (zero (ars 4 8))))", "(define (c (x (bv 8))) ^(n x p))(assert q (c a))",
		// After its closing parenthesis, but before the body, which is wrong, too.
		"(assert q ^(n p p)", "(assert q ^(n p p) 5", "(define (c (x (bv 8))) 5)(assert q ^(c p))", "(define (c (x (bv 8))) (not x s))(assert q ^(c p))", "(define (c (x (bv 8))) d)(assert q ^(c s))")
	failing(t, before, api.ErrMore, "(assert q (n p p^", "(assert q (n p^")
	failing(t, before, api.ErrForm, "(assert q (n p p ^p))", "(assert q (n p^))", "(define (c (x (bv 8))) ^5)(assert q (c a))")
	failing(t, before, api.ErrName, "(assert q (n p ^c))")
	script(t, before+`(assert q (eq (o u) (o "abcde")))(assert q (n (num 3 8) #x05))(define (c (x (arr 4 8))) (eq x f))(assert q (c (store f #x1 a)))`)
}

// P10.2: ErrSort, for assertions that are not of one bit.
func TestAssertionSorts(t *testing.T) {
	for _, term := range []string{"a", "s", "f", "#x00", "#b00", "(not a)", "\"\"", "(len s)", "(o u)", "(num 0 2)", "(zero (arr 4 8))", "(ite p a b)", "(add a (neg\n b))"} {
		for _, word := range []string{"assert", "edit"} {
			failing(t, before, api.ErrSort, "("+word+" q ^"+term+")", "("+word+" q ^"+term, "("+word+" q ^"+term+" 5", "("+word+" q ^"+term+" ()", "(push)("+word+" q ; a\n ^"+term+")(foo)")
		}
	}
	failing(t, before, api.ErrSort, "(define (c) a)(assert q ^c)", "(define (c) (not a))(assert q ^c)", "(define (c) a)(edit q ^(c))", "(define (c (x (bv 8))) (not x))(assert q ^(c a))", "(define (c (x (bv 8))) x)(assert q ^(c a)", "(define (c (x (str 0))) x)(assert q ^(c \"\"))", "(declare c (str 1))(assert q ^c)", "(declare c (str 1))(assert q ^c")
	failing(t, before, api.ErrMore, "(assert q (not a^", "(assert q (o u^")
	script(t, before+"(assert q p)(assert q (eq a b))(assert q m)(assert q (n a b))(assert q (extract 0 0 a))(edit q (num 0 1))")
}

// P10.2: errors of regular expressions.
func TestExpressionErrors(t *testing.T) {
	sixty := strings.Repeat("'a'", 60)
	for e, l := range map[api.Errno][]string{
		api.ErrForm:  {"", " ", "[", "a", "none none none)", "'a'|", "()", "alt", "'a", `\\x0`, "'A'-'B'", "['b'-'a']", `'a'\x0a`, strings.Repeat("(", 4096), strings.Repeat("'a'", 65) + "|", strings.Repeat("(", 4095) + "!"},
		api.ErrLimit: {strings.Repeat("'a'", 64), sixty + "'a''a''a''a'", "'a'" + strings.Repeat("*", 64), strings.Repeat("!", 64) + "none", strings.Repeat("all()", 40), sixty + "all()all()all()", strings.Repeat(" ", 4093) + "none", strings.Repeat("(", 4097), strings.Repeat("[", 4097), strings.Repeat(`\x00`, 4097), strings.Repeat("a", 60000)},
	} {
		for _, x := range l {
			failing(t, before, e, "(assert q (in ^\""+x+"\" s))", "(assert q (in ^\""+x+"\"", "(assert q (in ^\""+x+"\" 5", "(assert q (in ^\""+x+"\" a))", "(define (c) (in ^\""+x+"\" s))(assert q c)")
		}
	}
	failing(t, before, api.ErrSort, "(assert q ^(in \"'a'\" a))", "(assert q ^(in \"'a'\" f))")
	failing(t, before, api.ErrMore, "(assert q (in \"'a'\" a^")
	failing(t, before, api.ErrName, "(assert q (in \"'a'\" ^c", "(assert q (in \"'a'\" (^c")
	// Right, wrong, and right again.
	failing(t, before, api.ErrForm, "(assert q (in \"'a'\" s))(assert q (in \"'a'\" s))(assert q (in ^\"'a\" s))")
	failing(t, before, api.ErrForm, "(define (c) (in \"'a'\" s))(assert q (and c (or c (in ^\"'a'|\" s))))")
}

// P10.2: errors of term.Add, at first tokens, after all others.
func TestAddErrors(t *testing.T) {
	failing(t, before, api.ErrSort, "(assert q ^(not s))", "(assert q ^(not s)", "(assert q ^(not s) 5", "(assert q ^(and a p))", "(assert q ^(and p a))", "(assert q (not ^(and p a)))", "(assert q (or ^(and p a) c))", "(assert q ^(ite a a a))", "(assert q ^(ite p a s))", "(assert q ^(eq a p))", "(assert q ^(select f a))", "(assert q ^(len a))", "(assert q ^(num 0 0))", "(assert q ^(num 5 65))", "(assert q ^(num 5 9999999999999))", "(assert q ^(zero (bv 1)))", "(assert q ^(zero (str 1)))", "(assert q ^(zero (str 1))", "(assert q ^(extract 9 10 s))", "(assert q ^(zext 99 s))", "(assert q ^(byte 99 a))", "(assert q (n ^(add a p) b))", "(assert q ^(char p))", "(define (c) ^(not s))(assert q (and p c))")
	failing(t, before, api.ErrRange, "(assert q ^(num 2 1))", "(assert q ^(num 2 1)", "(assert q ^(num 9999999999999 43))", "(assert q ^(extract 0 1 a))", "(assert q ^(extract 8 8 a))", "(assert q ^(extract 9999999999999 0 a))", "(assert q ^(zext 0 p))", "(assert q ^(zext 64 p))", "(assert q ^(sext 57 a))", "(assert q (eq #x00 ^(byte 64 s)))", "(assert q (eq ^(concat (zext 49 a) a) a))", "(assert q (eq ^\""+strings.Repeat("a", 65)+"\" s))", "(assert q ^\""+strings.Repeat("a", 65)+"\"", "(assert q (eq s ^(cat \""+strings.Repeat("a", 56)+"\" s)))", "(assert q ^\""+strings.Repeat("a", 5000)+"\" 5")
	failing(t, before, api.ErrMore, "(assert q (and a p^", "(assert q (not s^", "(assert q (num 2 1^", "(assert q (zero (bv 1)^")
	failing(t, before, api.ErrForm, "(assert q (and a p ^p))", "(assert q (num 2 1 ^1))", "(assert q (not s ^5))")
	failing(t, before, api.ErrName, "(assert q (and s ^c))", "(assert q (and ^c s))", "(assert q (or (and p ^c) (not s)))")
}

// P10.2: ErrRange, for large budgets.
func TestBudgets(t *testing.T) {
	failing(t, before, api.ErrRange, "(check ^1099511627777)", "(check ^1099511627777", "(check ^1099511627777 5", "(check ^9999999999999)", "(check 1099511627776)(check ^2000000000000)(foo)")
	failing(t, before, api.ErrMore, "(check 1099511627776^")
}

// P10.2: the first of several errors is returned.
func TestFirst(t *testing.T) {
	failing(t, before, api.ErrName, "(assert q ^c)(assert q a)", "(assert q (and ^c (not s)))", "(assert q (and (not p) ^c))(foo)")
	failing(t, before, api.ErrSort, "(assert q ^a)(assert q c)", "(assert q (and ^(not s) c))", "(declare c ^(bv 0))(declare c (bv 1))", "(define (c (x ^(bv 0)) (x (bv 1))) p)")
	failing(t, before, api.ErrForm, "(^foo)(assert q c)", "(assert q (and p ^5 c))", "(define (c)^)(assert q d)")
	failing(t, before, api.ErrTwice, "(declare ^a (bv 0))", "(define (c (x (bv 1)) (^x (bv 0))) p)", "(define (^a (x (bv 0))) p)")
	failing(t, before, api.ErrRange, "(check ^9999999999999)(assert q c)")
	// Terms are read before the body, and errors of terms come before those of the body.
	failing(t, before, api.ErrName, "(define (c (x (bv 1))) 5)(assert q (c ^d))", "(define (c (x (bv 1)) (y (bv 1))) (not s))(assert q (c p ^d))")
	failing(t, before, api.ErrSort, "(define (c (x (bv 1))) 5)(assert q (c ^(not s)))", "(define (c (x (bv 1))) ^(not s))(assert q (and (c p) d))")
}
