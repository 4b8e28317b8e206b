package infer

import (
	"errors"
	"fmt"
	"math"
	"slices"
	"strconv"
	"strings"
	"sync"
	"testing"

	"emissary/api"
	"emissary/parse"
	"emissary/tree"
	"emissary/typ"
)

// few is what a message tells of x.
func few(x any) string {
	s := fmt.Sprint(x)
	return s[:min(len(s), 500)]
}

// parsed is a text's expression; @ in it tells a place, which is at, and is
// left out.
func parsed(t *testing.T, s string) (n api.Node, at int) {
	t.Helper()
	at = strings.Index(s, "@")
	n, where, err := parse.Parse(strings.Replace(s, "@", "", 1))
	if err != api.OK {
		t.Fatalf("%q is no expression: %v at %d", s, err, where)
	}
	return n, at
}

// wantType is that n has the type of that text.
func wantType(t *testing.T, n api.Node, want string) {
	t.Helper()
	got, at, err := Of(n)
	if err != api.OK || at != 0 || typ.Show(got) != want {
		t.Errorf("Of(%s): %s, %d, %v, want %s", few(n), few(typ.Show(got)), at, err, few(want))
	}
}

// wantErr is that n has that error there.
func wantErr(t *testing.T, n api.Node, at int, err api.Errno) {
	t.Helper()
	got, gotAt, gotErr := Of(n)
	if gotErr != err || gotAt != at || got.Op != "" || got.N != 0 || len(got.Kids) != 0 {
		t.Errorf("Of(%s): %s, %d, %v, want %d, %v", few(n), few(typ.Show(got)), gotAt, gotErr, at, err)
	}
}

// wantExpected holds Of against the second working-out; it tells whether that
// knew what to expect.
func wantExpected(t *testing.T, n api.Node) bool {
	t.Helper()
	text, r, known := expected(n)
	switch {
	case !known:
		Of(n)
	case r.err == api.OK:
		wantType(t, n, text)
	default:
		wantErr(t, n, r.at, r.err)
	}
	if t.Failed() {
		t.FailNow()
	}
	return known
}

type line struct{ text, want string }

func wantLines(t *testing.T, l []line) {
	t.Helper()
	for _, x := range l {
		n, _ := parsed(t, x.text)
		wantType(t, n, x.want)
		wantExpected(t, n)
	}
}

// wantErrs is that each text has that error where its @ stands.
func wantErrs(t *testing.T, err api.Errno, texts ...string) {
	t.Helper()
	for _, s := range texts {
		n, at := parsed(t, s)
		wantErr(t, n, at, err)
		wantExpected(t, n)
	}
}

// P11.1: the document's example, and each Op alone.
func TestEachOp(t *testing.T) {
	wantErrs(t, api.ErrType, "fun x -> x @x")
	wantLines(t, []line{
		{"0", "int"},
		{"999999999999999999", "int"},
		{"true", "bool"},
		{"false", "bool"},
		{"()", "unit"},
		{"[]", "'0 list"},
		{`""`, "string"},
		{`"x"`, "string"},
		{"fun x -> x", "('0 -> '0)"},
		{"fun x -> 1", "('0 -> int)"},
		{"let x = 1 in true", "bool"},
		{"let x = 1 in x", "int"},
		{"let rec f x = 1 in true", "bool"},
		{"let rec f x = 1 in f", "('0 -> int)"},
		{"let rec f x = x in f", "('0 -> '0)"},
		{"let rec f x = f x in f", "('0 -> '1)"},
		{"if true then 1 else 2", "int"},
		{"match [] with [] -> 1 | x :: y -> 2", "int"},
		{"match 1 :: [] with [] -> 2 | x :: y -> x", "int"},
		{"match 1 :: [] with [] -> [] | x :: y -> y", "int list"},
		{"try 1 with e -> e", "int"},
		{"try true with e -> false", "bool"},
		{"1; true", "bool"},
		{"ref 1 := 2", "unit"},
		{"1 = 2", "bool"},
		{"1 < 2", "bool"},
		{"1 :: []", "int list"},
		{"[] :: []", "'0 list list"},
		{"1 + 2", "int"},
		{"1 - 2", "int"},
		{`"a" ^ "b"`, "string"},
		{"1 * 2", "int"},
		{"(fun x -> x) 1", "int"},
		{"(1, true)", "(int * bool)"},
		{"([], [])", "('0 list * '1 list)"},
		{"link (cell 1) []", "unit"},
		{"raise 1", "'0"},
		{"!(ref 1)", "int"},
		{"fst (1, true)", "int"},
		{"snd (1, true)", "bool"},
		{"ref 1", "int ref"},
		{"ref []", "'0 list ref"},
		{"cell 1", "cell"},
		{"tag (cell 1)", "int"},
		{"links (cell 1)", "cell list"},
		{`size "a"`, "int"},
		{`print "a"`, "unit"},
	})
}

// P11.1: what each Op makes of names of which nothing was said.
func TestWhatAnOpSaysOfItsKids(t *testing.T) {
	wantLines(t, []line{
		{"fun x -> fun y -> x; y", "('0 -> ('1 -> '1))"},
		{"fun x -> fun y -> fun z -> if x then y else z", "(bool -> ('0 -> ('0 -> '0)))"},
		{"fun x -> fun y -> fun z -> match x with [] -> y | a :: b -> z", "('0 list -> ('1 -> ('1 -> '1)))"},
		{"fun x -> fun y -> match x with [] -> y | a :: b -> a", "('0 list -> ('0 -> '0))"},
		{"fun x -> fun y -> match x with [] -> y | a :: b -> b", "('0 list -> ('0 list -> '0 list))"},
		{"fun x -> fun y -> try x with e -> y", "('0 -> ('0 -> '0))"},
		{"fun x -> try x with e -> e", "(int -> int)"},
		{"fun x -> fun y -> x := y", "('0 ref -> ('0 -> unit))"},
		{"fun x -> fun y -> x = y", "(int -> (int -> bool))"},
		{"fun x -> fun y -> x < y", "(int -> (int -> bool))"},
		{"fun x -> fun y -> x :: y", "('0 -> ('0 list -> '0 list))"},
		{"fun x -> fun y -> x + y", "(int -> (int -> int))"},
		{"fun x -> fun y -> x - y", "(int -> (int -> int))"},
		{"fun x -> fun y -> x ^ y", "(string -> (string -> string))"},
		{"fun x -> fun y -> x * y", "(int -> (int -> int))"},
		{"fun x -> fun y -> x y", "(('0 -> '1) -> ('0 -> '1))"},
		{"fun x -> fun y -> (x, y)", "('0 -> ('1 -> ('0 * '1)))"},
		{"fun x -> fun y -> (y, x)", "('0 -> ('1 -> ('1 * '0)))"},
		{"fun x -> fun y -> link x y", "(cell -> (cell list -> unit))"},
		{"fun x -> raise x", "(int -> '0)"},
		{"fun x -> !x", "('0 ref -> '0)"},
		{"fun x -> fst x", "(('0 * '1) -> '0)"},
		{"fun x -> snd x", "(('0 * '1) -> '1)"},
		{"fun x -> ref x", "('0 -> '0 ref)"},
		{"fun x -> cell x", "(int -> cell)"},
		{"fun x -> tag x", "(cell -> int)"},
		{"fun x -> links x", "(cell -> cell list)"},
		{"fun x -> size x", "(string -> int)"},
		{"fun x -> print x", "(string -> unit)"},
		{"fun x -> let y = x in (y, x)", "('0 -> ('0 * '0))"},
		{"fun x -> let rec f y = x in f", "('0 -> ('1 -> '0))"},
	})
}

// P11.1: Ops in one another.
func TestOpsInOneAnother(t *testing.T) {
	wantLines(t, []line{
		{"fun f -> fun g -> fun x -> f (g x)", "(('0 -> '1) -> (('2 -> '0) -> ('2 -> '1)))"},
		{"fun f -> fun x -> f x x", "(('0 -> ('0 -> '1)) -> ('0 -> '1))"},
		{"fun x -> fun y -> fun z -> x z (y z)", "(('0 -> ('1 -> '2)) -> (('0 -> '1) -> ('0 -> '2)))"},
		{"fun f -> fun p -> f (fst p) (snd p)", "(('0 -> ('1 -> '2)) -> (('0 * '1) -> '2))"},
		{"fun c -> (fst (snd c)) (fst c)", "(('0 * (('0 -> '1) * '2)) -> '1)"},
		{"fun r -> fun x -> r := x :: !r; !r", "('0 list ref -> ('0 -> '0 list))"},
		{"fun x -> (try raise x with e -> x, raise (x + 1))", "(int -> (int * '0))"},
		{"let rec len l = match l with [] -> 0 | x :: y -> 1 + len y in len", "('0 list -> int)"},
		{"let rec fold f = fun a -> fun l -> match l with [] -> a | x :: y -> fold f (f a x) y in fold", "(('0 -> ('1 -> '0)) -> ('0 -> ('1 list -> '0)))"},
		{"let rec app a = fun b -> match a with [] -> b | x :: y -> x :: app y b in app", "('0 list -> ('0 list -> '0 list))"},
		{"let rec zip a = fun b -> match a with [] -> [] | x :: y -> match b with [] -> [] | v :: w -> (x, v) :: zip y w in zip", "('0 list -> ('1 list -> ('0 * '1) list))"},
		{"let rec walk c = match links c with [] -> tag c | x :: y -> walk x in walk", "(cell -> int)"},
		{"let r = ref (fun x -> x + 1) in !r 1", "int"},
		{`fun x -> if size x < 1 then "" else x ^ x`, "(string -> string)"},
		{"let rec fix f = fun x -> f (fix f) x in fix", "((('0 -> '1) -> ('0 -> '1)) -> ('0 -> '1))"},
		{"raise (raise 1)", "'0"},
		{"raise 1 + raise 2", "int"},
		{"(raise 1) (raise 2)", "'0"},
		{"if raise 1 then raise 2 else raise 3", "'0"},
		{"match raise 1 with [] -> raise 2 | x :: y -> x", "'0"},
		{"!(raise 1) := fst (raise 2)", "unit"},
	})
}

// P11.1: a name is bound by its own Ops alone, in their own kids.
func TestNames(t *testing.T) {
	wantErrs(t, api.ErrName,
		"@x", "fun x -> @y", "(fun x -> x) @x", "(fun x -> x; x) 1; @x",
		"let x = @x in x", "(let x = 1 in x) + @x", "let x = 1 in @y",
		"let rec f x = f x in @x", "let rec f x = @y in f", "(let rec f x = x in 1) + @f", "let rec f x = 1 in (fun x -> f x) @x",
		"match @x with [] -> 1 | x :: y -> 2", "match @y with [] -> 1 | x :: y -> 2",
		"match [] with [] -> @x | x :: y -> 2", "match [] with [] -> @y | x :: y -> 2", "match [] with [] -> 1 | x :: y -> @z",
		"(match [] with [] -> 1 | x :: y -> x) + @x", "try @e with e -> 1", "try 1 with e -> @f", "(try 1 with e -> e) + @e",
	)
	wantErr(t, api.Node{Op: "var", Name: "x", At: -7}, -7, api.ErrName)
	wantErr(t, api.Node{Op: "var", Name: "x", At: math.MinInt}, math.MinInt, api.ErrName)
	wantErr(t, api.Node{Op: "ref", At: 1, Kids: []api.Node{{Op: "var", Name: "x", At: math.MaxInt}}}, math.MaxInt, api.ErrName)
}

// P11.1: what is bound last is what a name is.
func TestNamesBoundAgain(t *testing.T) {
	wantLines(t, []line{
		{"fun x -> fun x -> x + 1", "('0 -> (int -> int))"},
		{"fun x -> (fun x -> x :: []) (x + 1)", "(int -> int list)"},
		{"fun x -> (let x = (x, x) in x, x)", "('0 -> (('0 * '0) * '0))"},
		{"let x = 1 in let x = (x, true) in let x = x :: [] in x", "(int * bool) list"},
		{"let x = 1 in (let x = true in x, x)", "(bool * int)"},
		{"let rec f f = f + 1 in f", "(int -> int)"},
		{"let rec f f = f in (f 1, f true)", "(int * bool)"},
		{"let rec f x = let f = x in f in f", "('0 -> '0)"},
		{"let rec f x = (fun f -> f) x in f", "('0 -> '0)"},
		{"let f = 1 in let rec f x = f (x + 1) in f", "(int -> '0)"},
		{"fun f -> let rec g f = f + 1 in f", "('0 -> '0)"},
		{"fun x -> let rec f x = x + 1 in x", "('0 -> '0)"},
		{"match 1 :: [] with [] -> [] | x :: x -> x", "int list"},
		{"fun l -> match l with [] -> [] | x :: x -> x", "('0 list -> '0 list)"},
		{"fun x -> match x with [] -> x | x :: y -> y", "('0 list -> '0 list)"},
		{"fun x -> match x with [] -> x | y :: x -> x", "('0 list -> '0 list)"},
		{"fun x -> match true :: [] with [] -> x | x :: y -> if x then 1 else 2", "(int -> int)"},
		{"fun x -> try x with x -> x", "(int -> int)"},
		{"fun x -> (try true with x -> x < 1, x)", "('0 -> (bool * '0))"},
		{"let e = true in try e with e -> e < 1", "bool"},
		{"let x = fun y -> y in fun x -> x", "('0 -> '0)"},
	})
	wantErrs(t, api.ErrType,
		"let f = fun x -> x in let rec f x = if f true then 1 else f @1 in f",
		"let rec f f = f @f in f",
		"let rec f x = f x in fun f -> (f 1, f @true)",
		"match 1 :: [] with [] -> 1 | x :: x -> x @+ 1",
		"let x = fun y -> y in fun x -> (x 1, x @true)",
		"fun x -> let y = 1 in (fun y -> y 1) @y",
		"try 1 with e -> (fun e -> e 1) @e",
	)
}

// P11.1: at each Op, what is to be one of it and is not.
func TestTypesThatDoNotFit(t *testing.T) {
	wantErrs(t, api.ErrType,
		"1 @+ true", "true @+ 1", "1 @- ()", "[] @- 1", "1 @* ref 1", "cell 1 @* 1",
		`1 @^ "a"`, `"a" @^ 1`, `"a" ^ "b" @^ 1`, `1 + 1 @^ "a"`,
		"1 @= true", `"a" @= "a"`, "() @= ()", "true @= true", "1 @< true", "true @< 1", "[] @< []",
		"1 @:: 2", "1 @:: true :: []", "1 :: true @:: () :: []", "[] @:: 1 :: []", "(fun x -> x + 1) @:: (fun x -> x ^ x) :: []",
		"1 @:= 2", "ref 1 @:= true", "ref [] @:= 1", "ref (1 :: []) @:= true :: []",
		"@!1", "@!(1 :: [])", "@fst 1", "@snd 1", "@fst (1 :: [])", "@snd (ref (1, 2))", "@fst (fun x -> x)",
		"1 @2", "(1, 2) @1", "(fun x -> x + 1) @true", "(fun x -> x) 1 @2", "(fun x -> fun y -> x + y) 1 @true", "(fun f -> f 1) @(fun x -> !x)",
		"@raise true", "@raise ()", "@cell true", "@cell (cell 1)", "@tag 1", "@tag (cell 1 :: [])", "@links ()", "@links (links (cell 1))",
		"@link 1 []", "@link (cell 1) (1 :: [])", "@link (cell 1) (cell 1)", "@link [] (cell 1)", "@size 1", "@size (ref 1)", "@print 1", "@print ()",
		"@if 1 then 2 else 3", "@if true then 1 else true", "@if true then () else 1", "@if [] then 1 else 1", "fun x -> @if x then x else 1",
		"@match 1 with [] -> 1 | x :: y -> 2", "@match (1, 2) with [] -> 1 | x :: y -> 2", "@match [] with [] -> 1 | x :: y -> true",
		"@match 1 :: [] with [] -> true | x :: y -> x", "@match 1 :: [] with [] -> 1 | x :: y -> y",
		"@try 1 with e -> true", "@try () with e -> e", "@try true with e -> e", "try 1 with e -> (e @^ e; 1)",
		"let x = 1 in x @^ x", `let x = "a" in x @+ 1`, "fun x -> x + 1; x @^ x",
		"let rec f x = x + 1 in f @true", "let rec f x = f true; f @1 in f", "@let rec f x = f x; f in f", "@let rec f x = 1 + f x x in f",
	)
}

// P11.1: no type has itself within.
func TestTypesThatWouldHoldThemselves(t *testing.T) {
	wantErrs(t, api.ErrType,
		"fun x -> x @x", "fun x -> x @(fun y -> x)", "fun x -> x @:: x", "fun x -> fun y -> x :: y; y @:: x", "fun x -> x @:= x",
		"fun x -> fun y -> x := y; y @:= x", "fun x -> @if true then x else (x, x)", "fun x -> @if true then x else fun y -> x",
		"@let rec f x = f in f", "@let rec f x = (x, f x) in f", "@let rec f x = ref (f x) in f", "let rec f x = f @f in f", "@let rec f x = f (f x) :: [] in 1",
		"fun x -> @match x with [] -> x | a :: b -> a", "fun l -> match l with [] -> l | x :: y -> l @:: y", "fun x -> @try x with e -> x :: []",
		"fun x -> let y = (x, 1) in @if true then x else y", "fun x -> (if true then fst x else snd x); @if true then fst x else x",
		"fun x -> fun y -> (if true then x else y :: []); @if true then y else x :: []", "fun f -> (fun x -> f (x @x)) (fun x -> f (x x))",
		"fun p -> (fst p) @p", "fun r -> r @:= (1, !r)", "fun f -> f (f @f)",
	)
	wantLines(t, []line{
		{"let i = fun x -> x in i i", "('0 -> '0)"},
		{"let n = [] in n :: n", "'0 list list"},
		{"let r = fun u -> raise 1 in r r", "'0"},
		{"let rec f x = x in f f", "('0 -> '0)"},
		{"fun x -> if true then x else !(ref x)", "('0 -> '0)"},
		{"fun x -> (x := !x; x)", "('0 ref -> '0 ref)"},
		{"let rec f x = f (raise 1) in f", "('0 -> '1)"},
	})
}

// P11.1: let of a value is for all types of it; of what is none, for one.
func TestLetOfValuesAndOthers(t *testing.T) {
	wantLines(t, []line{
		{"let i = fun x -> x in (i 1, i true)", "(int * bool)"},
		{"let i = fun x -> x in let j = i in (j 1, j true)", "(int * bool)"},
		{"let n = [] in (1 :: n, true :: n)", "(int list * bool list)"},
		{"let p = (fun x -> x, []) in ((fst p) 1, ((fst p) true, (1 :: snd p, true :: snd p)))", "(int * (bool * (int list * bool list)))"},
		{"let l = (fun x -> x) :: [] in (match l with [] -> 1 | f :: r -> f 1, match l with [] -> true | f :: r -> f true)", "(int * bool)"},
		{"let p = (1, ([], (true, [] :: []))) in (1 :: fst (snd p), true :: fst (snd p))", "(int list * bool list)"},
		{"let k = fun x -> fun y -> x in (k 1 true, k true 1)", "(int * bool)"},
		{"let i = fun x -> (fun y -> y) x in (i 1, i true)", "(int * bool)"},
		{"let i = fun x -> x in i i (i 1)", "int"},
		{"let i = fun x -> x in (i, i)", "(('0 -> '0) * ('1 -> '1))"},
		{"let p = fun x -> (x, x) in p (p 1)", "((int * int) * (int * int))"},
		{"let s = fun p -> (snd p, fst p) in (s (1, true), s (\"a\", ()))", "((bool * int) * (unit * string))"},
		{"let i = fun x -> x in let i = fun x -> i (i x) in (i 1, i true)", "(int * bool)"},
		// What is no value, and is asked for one type alone.
		{"let x = (fun x -> x) (fun x -> x) in x 1", "int"},
		{"let x = (fun x -> x) (fun x -> x) in (x 1, x 2)", "(int * int)"},
		{"let x = ref [] in x", "'0 list ref"},
		{"let r = ref [] in r := 1 :: []; !r", "int list"},
		{"let r = raise 1 in (r, r)", "('0 * '0)"},
		{"let x = (fun x -> x) [] in (x, x)", "('0 list * '0 list)"},
		{"fun x -> let y = !x in (y, y)", "('0 ref -> ('0 * '0))"},
	})
	for _, s := range []string{
		"(fun x -> x) (fun x -> x)", "if true then fun x -> x else fun x -> x", "(); fun x -> x", "let j = fun x -> x in j", "let rec f x = x in f",
		"match [] with [] -> fun x -> x | a :: b -> a", "try fun x -> x with e -> raise 1", "raise 1", "!(ref (fun x -> x))", "fst (fun x -> x, 1)", "snd (1, fun x -> x)",
	} {
		wantErrs(t, api.ErrType,
			"let i = ("+s+") in (i 1, i @true)",
			"let p = (("+s+"), 1) in let q = p in ((fst q) 1, (fst q) @true)",
			"let p = (1, (("+s+"), 1)) in ((fst (snd p)) 1, (fst (snd p)) @true)",
			"let l = ("+s+") :: [] in (match l with [] -> 1 | f :: r -> f 1, match l with [] -> true | f :: r -> f @true)",
		)
		wantLines(t, []line{{"let i = (" + s + ") in (i 1 + 0, i 2 + 0)", "(int * int)"}, {"let i = fun u -> (" + s + ") in (i () 1 + 0, if i () true then 1 else 2)", "(int * int)"}})
	}
	wantErrs(t, api.ErrType,
		"let f = ref (fun x -> x) in f := (fun x -> x + 1); !f @true", "let r = ref [] in r := 1 :: []; r @:= true :: []",
		"let r = ref [] in let s = r in s := 1 :: []; s @:= true :: []", "let r = raise 1 in (r + 1, r @^ r)",
		"let r = ref [] in let f = fun u -> !r in (1 :: f (), true @:: f ())", "let n = (fun x -> x) [] in let m = n in (1 :: m, true @:: m)",
	)
}

// P11.1: of a let's value the vars that are free in the env, with what is said
// so far, are for one type.
func TestLetByTheEnv(t *testing.T) {
	wantLines(t, []line{
		{"fun x -> let y = x in y", "('0 -> '0)"},
		{"fun x -> let y = x in (y, y)", "('0 -> ('0 * '0))"},
		{"fun x -> let f = fun y -> x in (f 1, f true)", "('0 -> ('0 * '0))"},
		{"fun x -> let f = fun y -> (x, y) in (f 1, f true)", "('0 -> (('0 * int) * ('0 * bool)))"},
		{"fun x -> let p = (x, []) in (1 :: snd p, true :: snd p)", "('0 -> (int list * bool list))"},
		{"fun f -> let g = fun y -> f in g 1 (g true 2)", "((int -> int) -> int)"},
		{"fun x -> let f = fun y -> y in let g = fun z -> (f z, x) in (g 1, g true)", "('0 -> ((int * '0) * (bool * '0)))"},
		{"fun x -> x + 1; let y = x in y", "(int -> int)"},
		{"let i = fun x -> x in fun y -> let j = i in (j 1, j y)", "('0 -> (int * '0))"},
		{"fun x -> let f = fun u -> !x in (f (), f ())", "('0 ref -> ('0 * '0))"},
		{"fun l -> match l with [] -> [] | x :: y -> let f = fun u -> (x, u) in (f 1, f true) :: []", "('0 list -> (('0 * int) * ('0 * bool)) list)"},
		{"try 1 with e -> let f = fun x -> (x, e) in snd (f true) + snd (f 2)", "int"},
		{"let a = (fun x -> x) [] in let f = fun x -> (x, a) in (f 1, f true)", "((int * '0 list) * (bool * '0 list))"},
		{"fun x -> (fun x -> let y = fun z -> z in (y 1, y x)) (x, x)", "('0 -> (int * ('0 * '0)))"},
		{"fun x -> let f = fun u -> fst x in (f 1, f true)", "(('0 * '1) -> ('0 * '0))"},
	})
	wantErrs(t, api.ErrType,
		"fun x -> let y = x in (y 1, y @true)", "fun x -> let y = (x, 1) in ((fst y) 1, (fst y) @true)", "fun x -> let f = fun y -> x y in (f 1, f @true)",
		"fun x -> let f = fun y -> (if true then x else y) in (f 1, f @true)", "fun f -> let g = fun y -> f y in let h = g in (h 1, h @true)",
		// What is said so far stands between the env's vars and these.
		"fun x -> let f = fun u -> fst x in (f () 1, f () @true)", "fun x -> let f = fun u -> !x in (f () + 1, f () @^ f ())",
		"fun x -> fun y -> (if true then x else (y, y)); let f = fun u -> fst x in (f () 1, f () @true)",
		"fun x -> fun y -> y :: x; let f = fun u -> match x with [] -> y | a :: b -> a in (f () 1, f () @true)",
		"fun x -> let a = fst x in let f = fun u -> (u, a) in ((snd (f 1)) 1, (snd (f true)) @true)",
		"fun l -> match l with [] -> 1 | x :: y -> let f = fun u -> x in f 1 1; f true @true",
		"fun l -> match l with [] -> 1 | x :: y -> let f = fun u -> y in (1 :: f 1; true @:: f true); 2",
		"let r = ref [] in let f = fun x -> r := x :: [] in f 1; f @true",
		"let r = ref [] in let f = fun x -> (fun y -> x) (r := x :: []) in f 1; f @true",
		// Names that are bound again still hold their vars.
		"fun x -> let y = x in fun x -> let z = y in (z 1, z @true)",
	)
}

// P11.1: rec is one type in its first kid, and for all in its second, but for
// what is free in the env.
func TestRec(t *testing.T) {
	wantLines(t, []line{
		{"let rec i x = x in (i 1, i \"a\")", "(int * string)"},
		{"let rec i x = x in i i i 1", "int"},
		{"let rec f x = f x in (f 1 + 1, f true ^ \"a\")", "(int * string)"},
		{"let rec f x = fun y -> f y x in f", "('0 -> ('0 -> '1))"},
		{"let rec f x = if true then x else f (f x) in (f 1, f true)", "(int * bool)"},
		{"let rec map f = fun l -> match l with [] -> [] | x :: y -> f x :: map f y in (map (fun x -> x + 1), map (fun x -> (x, x)))", "((int list -> int list) * ('0 list -> ('0 * '0) list))"},
		{"fun x -> let rec f y = x in (f 1, f true)", "('0 -> ('0 * '0))"},
		{"fun x -> let rec f y = if true then x else f y in (f 1, f true)", "('0 -> ('0 * '0))"},
		{"fun x -> let rec f y = (x, y) in (f 1, f true)", "('0 -> (('0 * int) * ('0 * bool)))"},
		{"let rec f x = let rec g y = (x, y) in fst (g 1); fst (g true) in f", "('0 -> '0)"},
		{"let rec f x = let g = f in x + 1 in f", "(int -> int)"},
		{"let rec f x = 1 in let rec g x = f (f x) in g", "('0 -> int)"},
	})
	wantErrs(t, api.ErrType,
		"let rec f x = f 1; f @true in f", "let rec f x = let g = f in g 1; g @true in f", "let rec f x = let g = x in g 1; g @true in f",
		"let rec f x = (f 1, 1); f @true in f", "fun x -> let rec f y = x y in (f 1, f @true)", "fun x -> let rec f y = if true then x else y in (f 1, f @true)",
		"let rec f x = x in (f 1) @2", "@let rec f x = f 1 + 1; true in f", "fun x -> let rec f y = !x in (f () + 1, f () @^ f ())",
		"let rec f x = let rec g y = x y in g 1; g @true in f",
	)
}

// fitting is each Op with kids, kids that fit it, and kids that are well typed
// but don't.
func fitting() []struct {
	n     api.Node
	wrong [][]api.Node
} {
	one, yes, a, null := integer(1), api.Node{Op: "bool", N: 1}, named("str", "a"), node("nil")
	cells, ones, two := node("cell", one), node("cons", one, null), node("pair", one, yes)
	r, f := node("ref", one), named("fun", "q", node("add", word("q"), one))
	l := func(kids ...api.Node) []api.Node { return kids }
	return []struct {
		n     api.Node
		wrong [][]api.Node
	}{
		{node("raise", one), [][]api.Node{l(yes)}},
		{node("get", r), [][]api.Node{l(one)}},
		{node("fst", two), [][]api.Node{l(r)}},
		{node("snd", two), [][]api.Node{l(ones)}},
		{node("cell", one), [][]api.Node{l(a)}},
		{node("tag", cells), [][]api.Node{l(one)}},
		{node("links", cells), [][]api.Node{l(null)}},
		{node("size", a), [][]api.Node{l(ones)}},
		{node("print", a), [][]api.Node{l(cells)}},
		{both("rec", "x", "y", word("y"), one), [][]api.Node{l(word("x"), one), l(node("cons", node("app", word("x"), one), null), one)}},
		{named("try", "x", one, word("x")), [][]api.Node{l(yes, one), l(yes, word("x"))}},
		{node("set", r, one), [][]api.Node{l(one, one), l(r, yes), l(null, yes)}},
		{node("eq", one, one), [][]api.Node{l(yes, one), l(one, yes), l(a, a)}},
		{node("less", one, one), [][]api.Node{l(yes, one), l(one, yes), l(a, a)}},
		{node("add", one, one), [][]api.Node{l(yes, one), l(one, yes), l(a, a)}},
		{node("sub", one, one), [][]api.Node{l(yes, one), l(one, yes), l(a, a)}},
		{node("mul", one, one), [][]api.Node{l(yes, one), l(one, yes), l(a, a)}},
		{node("cat", a, a), [][]api.Node{l(yes, a), l(a, yes), l(one, one)}},
		{node("cons", one, ones), [][]api.Node{l(yes, ones), l(one, one), l(ones, ones)}},
		{node("app", f, one), [][]api.Node{l(one, one), l(f, yes), l(f, f)}},
		{node("link", cells, null), [][]api.Node{l(cells, ones), l(cells, cells), l(one, null)}},
		{node("if", yes, one, one), [][]api.Node{l(one, one, one), l(yes, one, yes), l(a, a, one)}},
		{both("match", "x", "y", ones, one, word("x")), [][]api.Node{l(ones, yes, one), l(ones, one, word("y")), l(one, one, one), l(yes, one, yes)}},
	}
}

// earlyWrong tells whether what is to be one of n's first kid, which is made
// one ahead of its others, already isn't.
func earlyWrong(n api.Node, wrong []api.Node) bool {
	return n.Op == "rec" || n.Op == "match" && wrong[0].Op != "cons"
}

// P11.1: of more than one error the first, as the rules go: its kids from the
// left, then what is to be one of it.
func TestTheFirstError(t *testing.T) {
	unbound, untyped := word("w"), node("app", integer(1), integer(1))
	for _, x := range fitting() {
		wantType(t, x.n, first(expected(x.n)))
		for _, kids := range append(x.wrong, x.n.Kids) {
			n := x.n
			n.Kids = kids
			for which := range 1 << (2 * len(kids)) {
				bad := n
				bad.Kids = slices.Clone(kids)
				var errs []int
				for i := range kids {
					if k := which >> (2 * i) & 3; k > 0 {
						bad.Kids[i] = []api.Node{{}, unbound, untyped, node("ref", unbound)}[k]
						errs = append(errs, i)
					}
				}
				bad = eachPlaced(bad)
				right := slices.EqualFunc(kids, x.n.Kids, tree.Same)
				switch {
				case len(errs) == 0 && right:
					continue
				case !right && earlyWrong(n, kids) && (len(errs) == 0 || errs[0] > 0), len(errs) == 0:
					wantErr(t, bad, bad.At, api.ErrType)
				default:
					k := bad.Kids[errs[0]]
					wantErr(t, bad, within(k), map[string]api.Errno{"var": api.ErrName, "app": api.ErrType, "ref": api.ErrName}[k.Op])
				}
				wantExpected(t, bad)
			}
		}
	}
}

// within is where k's error is: at its kid, if it is the ref.
func within(k api.Node) int {
	if k.Op == "ref" {
		return k.Kids[0].At
	}
	return k.At
}

func first(s string, _ refused, _ bool) string { return s }

// P11.1: the same in texts.
func TestTheFirstErrorOfMany(t *testing.T) {
	wantErrs(t, api.ErrName,
		"@y + z", "(@y + true) + z", "@z + (1 + true)", "(1, @y) + (1 2)", "if 1 then @z else 2", "if 1 then 2 else @z", "if @z then 1 2 else y",
		"match [] with [] -> @z | x :: y -> w", "match [] with [] -> true | x :: y -> 1 + @w", "let rec f x = @z in f 1 2", "let rec f x = 1 in @z; f 1 2",
		"let x = @y in 1 2", "let x = 1 in @y (1 2)", "try @y with e -> 1 2", "try 1 with e -> @y; true", "fun x -> @y x (x x)", "(fun x -> @y) (1 2)",
		"1 @y", "link @y (1 2)", "link 1 @y", "ref (@y := 1 2)",
	)
	wantErrs(t, api.ErrType,
		"(1 @+ true) + z", "1 @2 + y", "@match 1 with [] -> z | x :: y -> z", "@match 1 with [] -> 1 2 | x :: y -> 1 2", "@let rec f x = f in z",
		"@let rec f x = f in f 1 2", "let rec f x = f 1; f @true in z", "let x = 1 @2 in y", "try 1 @2 with e -> y", "(1 @2) y", "if (1 @2) then y else y",
		"match 1 @2 with [] -> y | a :: b -> y", "fun x -> (x @x) y", "1 @2; y", "(1 @2, y)", "1 @2 :: y", "1 @2 3 4", "raise (@raise true)",
		"1 @2 := (3 4)", "@if 1 then 2 else true", "(@if true then 2 else true); y",
	)
}

// P11.1: what is no expression, alone and further down; that comes ahead of all
// other errors.
func TestNoExpression(t *testing.T) {
	one := integer(1)
	round := []api.Node{{Op: "ref"}}
	round[0].Kids = round
	for _, n := range []api.Node{
		{}, {Op: "none"}, {Op: "VAR", Name: "x"}, {Op: "int", N: -1}, {Op: "int", N: 1e18}, {Op: "bool", N: 2}, {Op: "unit", N: 1}, named("int", "x"), named("var", ""), named("var", "let"), named("var", "X"),
		named("var", "x "), named("var", strings.Repeat("x", api.MaxName+1)), both("var", "x", "y"), named("str", "\""), named("str", strings.Repeat("x", api.MaxStr+1)),
		node("fun", one), named("fun", "x"), named("fun", "x", one, one), both("fun", "x", "y", one), node("let", one, one), named("let", "x", one), named("rec", "x", one, one), both("rec", "x", "", one, one),
		both("rec", "in", "x", one, one), node("if", one, one), node("if", one, one, one, one), named("match", "x", one, one, one), named("try", "x", one), node("add", one), node("app"), named("pair", "x", one, one),
		node("raise"), node("ref", one, one), {Op: "list", Kids: []api.Node{one}}, {Op: "\xff"}, round[0],
	} {
		for _, bad := range []api.Node{n, node("ref", n), node("pair", word("w"), n), node("pair", n, word("w")), node("seq", node("app", one, one), n), named("let", "y", n, one), named("fun", "y", named("fun", "z", n))} {
			bad.At = 7
			wantErr(t, bad, 0, api.ErrArg)
			if Fits(bad, num) || Fits(bad, variable(0)) {
				t.Errorf("%s fits", few(bad))
			}
		}
	}
	wantErr(t, rowOf(api.MaxNodes+1, "ref", one), 0, api.ErrArg)
	wantErr(t, rowOf(api.MaxNodes+1, "ref", word("w")), 0, api.ErrArg)
	wantErr(t, rowOf(1<<16, "ref", one), 0, api.ErrArg)
}

// rowOf is n nodes, each the only kid of the one above it; core is the last.
func rowOf(n int, op string, core api.Node) api.Node {
	for range n - 1 {
		core = node(op, core)
	}
	return core
}

// grown is core with more nodes about it, as grow adds them, till there would be
// more than MaxNodes, and refs for what is left; and how often each was.
func grown(core api.Node, grow func(i int, n api.Node) api.Node) (n api.Node, times, refs int) {
	for n = core; ; times++ {
		more := grow(times, n)
		if tree.Size(more) > api.MaxNodes {
			break
		}
		n = more
	}
	for ; tree.Size(n) < api.MaxNodes; refs++ {
		n = node("ref", n)
	}
	return n, times, refs
}

// numbered is a name of its own for each number.
func numbered(i int) string { return "x" + strconv.Itoa(i) }

// P11.1: expressions of MaxNodes nodes, in a row and side by side, by each Op.
func TestMaxNodes(t *testing.T) {
	one, null := integer(1), node("nil")
	identity := named("fun", "x", word("x"))
	repeat := strings.Repeat
	for _, x := range []struct {
		name string
		core api.Node
		grow func(i int, n api.Node) api.Node
		want func(times int) string
	}{
		{"ref", one, func(i int, n api.Node) api.Node { return node("ref", n) }, func(int) string { return "int" }},
		{"get of ref", one, func(i int, n api.Node) api.Node { return node("get", node("ref", n)) }, func(int) string { return "int" }},
		{"add", one, func(i int, n api.Node) api.Node { return node("add", n, one) }, func(int) string { return "int" }},
		{"sub", one, func(i int, n api.Node) api.Node { return node("sub", one, n) }, func(int) string { return "int" }},
		{"cat", named("str", ""), func(i int, n api.Node) api.Node { return node("cat", named("str", "a"), n) }, func(int) string { return "string" }},
		{"cons", null, func(i int, n api.Node) api.Node { return node("cons", one, n) }, func(int) string { return "int list" }},
		{"seq", one, func(i int, n api.Node) api.Node { return node("seq", node("unit"), n) }, func(int) string { return "int" }},
		{"seq of all", one, func(i int, n api.Node) api.Node { return node("seq", n, one) }, func(int) string { return "int" }},
		{"pair to the right", one, func(i int, n api.Node) api.Node { return node("pair", one, n) }, func(k int) string { return repeat("(int * ", k) + "int" + repeat(")", k) }},
		{"pair to the left", one, func(i int, n api.Node) api.Node { return node("pair", n, one) }, func(k int) string { return repeat("(", k) + "int" + repeat(" * int)", k) }},
		{"nil within cons", null, func(i int, n api.Node) api.Node { return node("cons", n, null) }, func(k int) string { return "'0" + repeat(" list", k+1) }},
		{"if", one, func(i int, n api.Node) api.Node { return node("if", api.Node{Op: "bool"}, one, n) }, func(int) string { return "int" }},
		{"match", one, func(i int, n api.Node) api.Node { return both("match", "x", "y", null, one, n) }, func(int) string { return "int" }},
		{"match of match", null, func(i int, n api.Node) api.Node { return both("match", "x", "y", n, null, word("y")) }, func(int) string { return "'0 list" }},
		{"try", one, func(i int, n api.Node) api.Node { return named("try", "x", n, word("x")) }, func(int) string { return "int" }},
		{"let of none", one, func(i int, n api.Node) api.Node { return named("let", numbered(i), node("add", one, one), n) }, func(int) string { return "int" }},
		{"let in let", one, func(i int, n api.Node) api.Node { return named("let", "x", n, word("x")) }, func(int) string { return "int" }},
		{"let of the same", identity, func(i int, n api.Node) api.Node { return named("let", "x", identity, n) }, func(int) string { return "('0 -> '0)" }},
		{"rec", one, func(i int, n api.Node) api.Node {
			return both("rec", numbered(i), "y", node("app", word(numbered(i)), word("y")), n)
		}, func(int) string { return "int" }},
		{"app of the same", identity, func(i int, n api.Node) api.Node { return node("app", identity, n) }, func(int) string { return "('0 -> '0)" }},
		{"app of a row", identity, func(i int, n api.Node) api.Node { return node("app", n, identity) }, func(int) string { return "('0 -> '0)" }},
	} {
		n, times, refs := grown(x.core, x.grow)
		if x.name == "ref" {
			times, refs = 0, times
		}
		wantType(t, n, x.want(times)+repeat(" ref", refs))
		wantErr(t, node("raise", rowOf(2, "ref", n)), 0, api.ErrArg)
		wrong, _, _ := grown(word("w"), x.grow)
		if _, _, err := Of(wrong); err != api.ErrName {
			t.Errorf("%s: %v where a name is none", x.name, err)
		}
	}
}

// P11.1: as many names as there may be, for one type and for all, in types as
// large as they may be.
func TestMaxNodesAndManyNames(t *testing.T) {
	one, identity := integer(1), named("fun", "x", word("x"))
	lets := func(n int, name string, a, core api.Node) api.Node {
		for range n {
			core = named("let", name, a, core)
		}
		return core
	}
	wantType(t, named("fun", "x", lets(999, "x", word("x"), word("x"))), "('0 -> '0)")
	wantType(t, named("let", "x", identity, lets(996, "x", word("x"), node("pair", node("app", word("x"), one), word("x")))), "(int * ('0 -> '0))")
	n, want := integer(1), "int"
	for i := range 999 {
		n, want = named("fun", "x", n), "('"+strconv.Itoa(998-i)+" -> "+want+")"
	}
	wantType(t, n, want)
	n, want = word("y"), "'499"
	for i := range 500 {
		n = named("fun", numbered(499-i), named("let", "y", word(numbered(499-i)), n))
		want = "('" + strconv.Itoa(499-i) + " -> " + want + ")"
	}
	wantType(t, n, want)
	n = word("f")
	for range 998 {
		n = node("app", n, one)
	}
	wantType(t, named("fun", "f", n), "("+strings.Repeat("(int -> ", 998)+"'0"+strings.Repeat(")", 998)+" -> '0)")
	// Each use of p has a type of 1499 nodes, 500 vars of its own in it.
	p, uses := node("nil"), word("p")
	for range 499 {
		p = node("pair", node("nil"), p)
	}
	for range 498 {
		uses = node("seq", word("p"), uses)
	}
	if got, at, err := Of(named("let", "p", p, uses)); err != api.OK || at != 0 || len(typ.Vars(got)) != 500 {
		t.Errorf("%s, %d, %v", few(typ.Show(got)), at, err)
	}
}

// largest is an expression of few nodes, and its type, which has MaxNodes.
func largest(t *testing.T) (api.Node, api.Type) {
	n, x := node("ref", doubled(3, integer(1))), ty("ref", evenly(3))
	for k := 5; k <= 9; k++ {
		n, x = node("pair", doubled(k, integer(1)), n), pair(evenly(k), x)
	}
	if count(x) != api.MaxNodes {
		t.Fatalf("a type of %d nodes", count(x))
	}
	return n, x
}

// P11.1: no type of MaxNodes nodes is too large, whichever way it comes up.
func TestTypesOfMaxNodes(t *testing.T) {
	one, null, no := integer(1), node("nil"), node("bool")
	n, x := largest(t)
	y := word("y")
	for _, large := range []api.Node{
		n,
		node("seq", one, n),
		node("seq", n, n),
		node("if", no, n, n),
		node("if", no, node("raise", one), n),
		node("if", no, n, node("raise", one)),
		named("let", "y", n, y),
		named("let", "y", n, named("let", "z", y, named("let", "y", named("fun", "x", word("x")), word("z")))),
		named("let", "y", node("raise", one), named("let", "z", null, node("seq", node("if", no, y, n), named("let", "z", null, y)))),
		both("rec", "x", "y", one, n),
		both("match", "x", "y", null, n, n),
		both("match", "x", "y", null, n, named("let", "z", word("x"), n)),
		named("try", "y", n, n),
		node("app", named("fun", "y", one), node("seq", n, one)),
		node("size", named("let", "y", n, named("str", ""))),
	} {
		want := typ.Show(x)
		if large.Op == "app" || large.Op == "size" {
			want = "int"
		}
		wantType(t, large, want)
		wantFits(t, large, x, want != "int")
	}
}

// tuple is the type of k in a row, evenly that of 2^k in one another.
func tuple(k int, leaf func(i int) api.Type) api.Type {
	x := leaf(0)
	for i := 1; i < k; i++ {
		x = pair(leaf(i), x)
	}
	return x
}

func evenly(k int) api.Type {
	if k == 0 {
		return num
	}
	return pair(evenly(k-1), evenly(k-1))
}

// doubled is core, paired with itself k times.
func doubled(k int, core api.Node) api.Node {
	n := core
	for range k {
		n = node("app", word("d"), n)
	}
	return named("let", "d", named("fun", "x", node("pair", word("x"), word("x"))), n)
}

// W1: types of far more than MaxNodes nodes, of which no promise tells. Each
// call ends all the same, with a type or an error.
func TestTypesThatGrowTooLarge(t *testing.T) {
	one := integer(1)
	var all []api.Node
	add := func(n api.Node) {
		all = append(all, n, named("fun", "z", named("let", "y", n, word("y"))), node("fst", node("pair", one, n)), node("if", node("bool"), n, n), node("ref", node("add", n, one)))
	}
	for _, k := range []int{10, 11, 12, 13, 20, 40, 100, 300} {
		add(doubled(k, one))
		add(doubled(k, node("nil")))
		// d0 doubles, and d1 does what d0 does twice, and so on.
		n := node("app", word(numbered(k)), one)
		for i := k; i > 0; i-- {
			last := word(numbered(i - 1))
			n = named("let", numbered(i), named("fun", "x", node("app", last, node("app", last, word("x")))), n)
		}
		double := named("fun", "x", node("pair", word("x"), word("x")))
		add(named("let", numbered(0), double, n))
		add(both("rec", numbered(0), "x", node("pair", word("x"), word("x")), n))
		add(chain(k, one, false))
		add(chain(k, one, true))
		add(atOnce(k, 1))
		add(atOnce(k, 2))
		lets := word(numbered(k))
		for i := k; i > 0; i-- {
			last := word(numbered(i - 1))
			lets = named("let", numbered(i), node("get", node("ref", node("pair", last, last))), lets)
		}
		add(named("let", numbered(0), node("nil"), lets))
		add(named("let", numbered(0), node("raise", one), lets))
	}
	for _, n := range all {
		if !tree.Is(n) {
			continue
		}
		n = eachPlaced(n)
		got, at, err := Of(n)
		if err != api.OK && (got.Op != "" || at == 0) || err == api.OK && (got.Op == "" || at != 0) {
			t.Errorf("%s: %s, %d, %v", few(n), few(typ.Show(got)), at, err)
		}
		Fits(n, variable(0))
	}
}

// chain is k names, each of them said to be a pair of the next, the last one
// first or the first one first, and n.
func chain(k int, n api.Node, lastFirst bool) api.Node {
	for j := range k {
		i := j
		if lastFirst {
			i = k - 1 - j
		}
		next := word(numbered(i + 1))
		n = node("seq", node("if", node("bool"), word(numbered(i)), node("pair", next, next)), n)
	}
	n = node("pair", n, named("let", "f", word(numbered(0)), word("f")))
	for i := range k + 1 {
		n = named("fun", numbered(i), n)
	}
	return n
}

// atOnce makes so many rows of k names and one types of up to 2^k nodes, all at
// once, and then the first row's last type the last row's.
func atOnce(k, rows int) api.Node {
	name := func(row, i int) api.Node { return word(numbered(row*(k+1) + i)) }
	a, b := name(0, k), name(rows-1, k)
	for row := range rows {
		for i := range k {
			a = node("pair", name(row, k-i), a)
			b = node("pair", node("pair", name(row, k-i-1), name(row, k-i-1)), b)
		}
	}
	n := node("if", node("bool"), a, b)
	for i := range rows * (k + 1) {
		n = named("fun", numbered(i), n)
	}
	return n
}

func wantFits(t *testing.T, n api.Node, want api.Type, fits bool) {
	t.Helper()
	if got := Fits(n, want); got != fits {
		t.Errorf("Fits(%s, %s): %v", few(n), few(typ.Show(want)), got)
	}
}

// P11.2: where Of errs nothing fits.
func TestFitsOfWhatErrs(t *testing.T) {
	for _, s := range []string{"x", "1 + true", "fun x -> x x", "fun x -> y", "1; 1 2", "let x = 1 in x 1", "raise true", "let rec f x = f in f"} {
		n, _ := parsed(t, s)
		for _, want := range []api.Type{num, truth, unit, text, cell, variable(0), variable(7), list(num), ty("ref", num), pair(num, num), fun(num, num), fun(variable(0), variable(0)), fun(variable(0), variable(1)), {}} {
			wantFits(t, n, want, false)
		}
	}
}

// P11.2: the type itself, and what is had by replacing its vars, and all that
// is not.
func TestFits(t *testing.T) {
	v := variable
	for _, x := range []struct {
		text string
		fits []api.Type
		not  []api.Type
	}{
		{"1", []api.Type{num}, []api.Type{truth, unit, text, cell, v(0), v(1), list(num), ty("ref", num), pair(num, num), fun(num, num)}},
		{"true", []api.Type{truth}, []api.Type{num, unit, v(0)}},
		{"()", []api.Type{unit}, []api.Type{num, truth, v(0)}},
		{`"a"`, []api.Type{text}, []api.Type{num, cell, list(num), v(0)}},
		{"cell 1", []api.Type{cell}, []api.Type{num, text, list(cell), v(0)}},
		{"raise 1", []api.Type{v(0), v(1), v(math.MaxInt), num, list(v(0)), list(num), fun(v(3), v(4)), pair(pair(v(0), v(0)), cell)}, nil},
		{"[]", []api.Type{list(v(0)), list(v(9)), list(num), list(list(v(0))), list(fun(v(0), v(1)))}, []api.Type{v(0), num, ty("ref", v(0)), ty("ref", num)}},
		{"1 :: []", []api.Type{list(num)}, []api.Type{list(v(0)), list(truth), list(list(num)), num}},
		{"ref []", []api.Type{ty("ref", list(v(2))), ty("ref", list(num))}, []api.Type{list(list(v(0))), list(ty("ref", v(0))), ty("ref", v(0)), ty("ref", num)}},
		{"fun x -> x", []api.Type{fun(v(0), v(0)), fun(v(3), v(3)), fun(num, num), fun(list(v(1)), list(v(1))), fun(pair(v(1), v(2)), pair(v(1), v(2)))},
			[]api.Type{fun(v(0), v(1)), fun(v(3), v(4)), fun(num, truth), fun(v(0), num), fun(num, v(0)), fun(list(v(0)), list(v(1))), fun(list(v(0)), v(0)), fun(v(0), list(v(0))), fun(pair(v(1), v(2)), pair(v(2), v(1))), pair(num, num), v(0)}},
		{"fun x -> fun y -> x", []api.Type{fun(v(0), fun(v(1), v(0))), fun(v(1), fun(v(0), v(1))), fun(v(0), fun(v(0), v(0))), fun(num, fun(truth, num)), fun(v(1), fun(num, v(1))), fun(v(5), fun(list(v(5)), v(5))), fun(fun(v(0), v(1)), fun(v(0), fun(v(0), v(1))))},
			[]api.Type{fun(v(0), fun(v(1), v(1))), fun(v(0), fun(v(1), v(2))), fun(num, fun(num, truth)), fun(v(0), v(1)), fun(num, fun(truth, truth)), fun(v(0), pair(v(1), v(0)))}},
		{"fun x -> x + 1", []api.Type{fun(num, num)}, []api.Type{fun(v(0), v(0)), fun(num, v(0)), fun(v(0), num), fun(truth, truth), num}},
		{"fun x -> (x, [])", []api.Type{fun(num, pair(num, list(truth))), fun(v(0), pair(v(0), list(v(0)))), fun(v(2), pair(v(2), list(v(1))))}, []api.Type{fun(num, pair(truth, list(num))), fun(v(0), pair(v(1), list(v(0)))), fun(v(0), pair(v(0), v(1)))}},
		{"(fun x -> x, fun x -> x)", []api.Type{pair(fun(v(0), v(0)), fun(v(0), v(0))), pair(fun(num, num), fun(truth, truth)), pair(fun(v(1), v(1)), fun(v(0), v(0)))}, []api.Type{pair(fun(v(0), v(1)), fun(v(0), v(1))), pair(fun(num, num), fun(num, truth)), fun(num, num)}},
		{"fun x -> fun y -> (if true then x else y)", []api.Type{fun(v(7), fun(v(7), v(7))), fun(num, fun(num, num))}, []api.Type{fun(v(0), fun(v(1), v(0))), fun(num, fun(num, truth)), fun(num, fun(truth, num)), fun(truth, fun(num, num))}},
	} {
		n, _ := parsed(t, x.text)
		for _, want := range x.fits {
			wantFits(t, n, want, true)
		}
		for _, want := range x.not {
			wantFits(t, n, want, false)
		}
	}
}

// nones is what is no type.
func nones() []api.Type {
	round := []api.Type{{Op: "list"}}
	round[0].Kids = round
	return []api.Type{{}, ty("char"), ty("", num), ty("int", num), ty("list"), ty("list", num, num), ty("pair"), ty("pair", num), ty("pair", num, num, num), ty("fun", num), ty("ref"), {Op: "int", N: 1}, {Op: "int", N: -1},
		{Op: "list", N: 3, Kids: []api.Type{num}}, variable(-1), variable(math.MinInt), ty("var", num), ty("VAR"), ty("\xff\x00"), rowOfTypes(api.MaxNodes + 1), rowOfTypes(1 << 16), round[0]}
}

func rowOfTypes(n int) api.Type {
	x := num
	for range n - 1 {
		x = list(x)
	}
	return x
}

// P11.2: what is no type is none that an expression has, alone and within what
// would else fit.
func TestFitsOfWhatIsNoType(t *testing.T) {
	all, _ := parsed(t, "raise 1")
	lists, _ := parsed(t, "[]")
	pairs, _ := parsed(t, "(raise 1, raise 1)")
	one, _ := parsed(t, "1")
	for _, bad := range nones() {
		wantFits(t, all, bad, false)
		wantFits(t, all, fun(num, bad), false)
		wantFits(t, lists, list(bad), false)
		wantFits(t, pairs, pair(bad, num), false)
		wantFits(t, pairs, pair(num, bad), false)
		wantFits(t, pairs, pair(bad, bad), false)
		wantFits(t, one, bad, false)
	}
	wantFits(t, all, rowOfTypes(api.MaxNodes), true)
	wantFits(t, lists, rowOfTypes(api.MaxNodes), true)
	wantFits(t, rowOf(api.MaxNodes, "ref", integer(1)), rowOfTypes(api.MaxNodes), false)
}

// P11.2: one var in many places, many vars in one each.
func TestFitsOfManyVars(t *testing.T) {
	same, each := word("x"), node("nil")
	for range 300 {
		same, each = node("pair", word("x"), same), node("pair", node("nil"), each)
	}
	same = named("fun", "x", same)
	for _, by := range []api.Type{num, variable(0), variable(5), list(variable(3)), pair(num, variable(1))} {
		leaf := func(int) api.Type { return by }
		wantFits(t, same, fun(by, tuple(301, leaf)), true)
		for _, i := range []int{0, 1, 150, 299, 300} {
			one := func(j int) api.Type {
				if i == j {
					return truth
				}
				return by
			}
			wantFits(t, same, fun(by, tuple(301, one)), false)
		}
		wantFits(t, same, fun(truth, tuple(301, leaf)), false)
		wantFits(t, each, tuple(301, func(int) api.Type { return list(by) }), true)
		wantFits(t, each, tuple(301, leaf), by.Op == "list")
	}
	wantFits(t, each, tuple(301, func(i int) api.Type { return list(variable(i % 7)) }), true)
	wantFits(t, each, tuple(300, func(i int) api.Type { return list(num) }), false)
}

// swapped is t with each of its vars replaced by what by has for it.
func swapped(t api.Type, by func(n int) api.Type) api.Type {
	if t.Op == "var" {
		return by(t.N)
	}
	x := ty(t.Op)
	for _, k := range t.Kids {
		x.Kids = append(x.Kids, swapped(k, by))
	}
	return x
}

// someVars is a type for each var, some with vars, some the same for two.
func (p pick) someVars() func(n int) api.Type {
	var l []api.Type
	for range 1 + p(4) {
		x := p.someType(1 + p(6))
		for range p(3) {
			x = []api.Type{variable(p(9)), list(variable(p(9))), pair(variable(p(9)), x), fun(x, variable(p(9)))}[p(4)]
		}
		l = append(l, x)
	}
	return func(n int) api.Type { return l[n%len(l)] }
}

// changed is t with one thing of it turned.
func (p pick) changed(t api.Type) api.Type {
	if len(t.Kids) == 0 || p(4) == 0 {
		return []api.Type{p.someType(3), variable(p(4)), ty("list", t), ty("ref", t), pair(t, t)}[p(5)]
	}
	i := p(len(t.Kids))
	t.Kids = slices.Clone(t.Kids)
	t.Kids[i] = p.changed(t.Kids[i])
	return t
}

// wantMostGeneral is that all that n's type is made by replacing its vars fits,
// and nothing else.
func wantMostGeneral(t *testing.T, p pick, n api.Node) {
	t.Helper()
	x, _, err := Of(n)
	wantFits(t, n, x, err == api.OK)
	if err != api.OK || len(typ.Show(x)) > 2000 {
		return
	}
	for range 4 {
		y := swapped(x, p.someVars())
		wantFits(t, n, y, true)
		z := p.changed(y)
		wantFits(t, n, z, isMadeOf(x, z))
		z = p.changed(x)
		wantFits(t, n, z, isMadeOf(x, z))
	}
	if t.Failed() {
		t.FailNow()
	}
}

// P11.3, P11.2, P11.1: expressions that were made to have a type have it, or a
// more general one.
func TestMostGeneral(t *testing.T) {
	p := randomly(11)
	for i := range 3000 {
		want := p.someType(6)
		n := eachPlaced(p.of(want, nil, 2+i%90))
		if !tree.Is(n) {
			t.Fatalf("%s is no expression", few(n))
		}
		wantFits(t, n, want, true)
		wantExpected(t, n)
		wantMostGeneral(t, p, n)
	}
}

// P11.1: the same, where something is turned.
func TestWhatIsTurned(t *testing.T) {
	p := randomly(12)
	errs := map[api.Errno]int{}
	for i := range 12000 {
		n := p.of(p.someType(6), nil, 2+i%70)
		for range 1 + p(2) {
			by := p.of(p.someType(3), nil, 1+p(5))
			if p(5) == 0 {
				by = word([]string{"x", "y", "f", "g", "h"}[p(5)])
			}
			n = p.turned(n, by)
		}
		n = eachPlaced(n)
		wantExpected(t, n)
		_, _, err := Of(n)
		errs[err]++
	}
	for _, e := range []api.Errno{api.OK, api.ErrName, api.ErrType} {
		if errs[e] < 1000 {
			t.Errorf("too few came to %v: %v", e, errs)
		}
	}
}

// P11.1: all small expressions, and those of the names and what binds them,
// alone and where their names are bound.
func TestEverySmallExpression(t *testing.T) {
	var every []string
	for _, o := range ops {
		every = append(every, o.op)
	}
	around := func(n api.Node) {
		wantExpected(t, eachPlaced(n))
		wantExpected(t, eachPlaced(named("fun", "x", named("fun", "y", n))))
	}
	small(3, []string{"x", "y"}, every, func(n api.Node) {
		around(n)
		wantMostGeneral(t, randomly(13), n)
		wantExpected(t, eachPlaced(both("rec", "x", "y", n, word("x"))))
		wantExpected(t, eachPlaced(named("let", "x", n, node("pair", word("x"), word("x")))))
	})
	small(4, []string{"x"}, every, func(n api.Node) { wantExpected(t, eachPlaced(named("fun", "x", n))) })
	small(6, []string{"x", "y"}, []string{"var", "fun", "let", "rec", "app"}, around)
	small(5, []string{"x"}, []string{"var", "int", "nil", "fun", "let", "rec", "match", "ref", "get", "set", "pair", "fst"}, around)
}

// P11.1: whatever Ops and names.
func TestRandomExpressions(t *testing.T) {
	p := randomly(14)
	for i := range 30000 {
		wantExpected(t, eachPlaced(p.any(nil, 1+i%25)))
		wantExpected(t, eachPlaced(named("fun", "x", named("fun", "y", named("fun", "z", p.any([]string{"x", "y", "z"}, 1+i%12))))))
	}
}

// Within, what a var was said to be is what the Sub says: a type's size is
// known before it is made.
func TestSizesAreThose(t *testing.T) {
	p := randomly(15)
	for i := range 3000 {
		n := p.of(p.someType(6), nil, 2+i%60)
		if i%3 == 0 {
			n = p.turned(n, p.of(p.someType(3), nil, 3))
		}
		if _, _, known := expected(n); !known {
			continue
		}
		c := newChecker()
		c.typeOf(n, scope{})
		for v := range c.sub.Fresh().N {
			x := c.sub.Of(variable(v))
			size := count(x)
			for _, limit := range []int{1, 2, size - 1, size, size + 1, most} {
				if limit > 0 && c.said.size(variable(v), limit) != min(size, limit) {
					t.Fatalf("%s: '%d is %s, its size up to %d %d", few(n), v, few(typ.Show(x)), limit, c.said.size(variable(v), limit))
				}
			}
		}
	}
}

func count(t api.Type) int {
	n := 1
	for _, k := range t.Kids {
		n += count(k)
	}
	return n
}

// Within, an error is wrapped by the place where it stands.
func TestWrapped(t *testing.T) {
	for _, x := range []struct {
		text string
		err  api.Errno
	}{{"fun x -> (1, @y)", api.ErrName}, {"fun x -> x @x", api.ErrType}} {
		n, at := parsed(t, x.text)
		_, err := inferred(n)
		var p placed
		var e api.Errno
		if !errors.As(err, &p) || p.at != at || !errors.As(err, &e) || e != x.err || !errors.Is(err, x.err) || errors.Is(err, api.ErrArg) {
			t.Errorf("%q: %v", x.text, err)
		}
		if !strings.HasSuffix(err.Error(), " at "+strconv.Itoa(at)) || !strings.HasPrefix(err.Error(), x.err.Error()) {
			t.Errorf("%q: %v", x.text, err)
		}
	}
}

// spareNode is n with room behind the end of each of its lists, in which other
// nodes stand; spareType is so with a type.
func spareNode(n api.Node) api.Node {
	kids := make([]api.Node, 0, len(n.Kids)+2)
	for _, k := range n.Kids {
		kids = append(kids, spareNode(k))
	}
	n.Kids = append(kids, integer(81), integer(82))[:len(kids)]
	return n
}

func spareType(t api.Type) api.Type {
	kids := make([]api.Type, 0, len(t.Kids)+2)
	for _, k := range t.Kids {
		kids = append(kids, spareType(k))
	}
	t.Kids = append(kids, variable(81), variable(82))[:len(kids)]
	return t
}

// nodeStays tells whether n is what spareNode made of was, spare room too;
// typeStays does so of a type.
func nodeStays(n, was api.Node) bool {
	if n.At != was.At || n.Op != was.Op || n.Name != was.Name || n.Arg != was.Arg || n.N != was.N || cap(n.Kids) != len(was.Kids)+2 {
		return false
	}
	behind := n.Kids[len(n.Kids):cap(n.Kids)]
	return tree.Same(behind[0], integer(81)) && tree.Same(behind[1], integer(82)) && slices.EqualFunc(n.Kids, was.Kids, nodeStays)
}

func typeStays(t, was api.Type) bool {
	if t.Op != was.Op || t.N != was.N || cap(t.Kids) != len(was.Kids)+2 {
		return false
	}
	behind := t.Kids[len(t.Kids):cap(t.Kids)]
	return typ.Same(behind[0], variable(81)) && typ.Same(behind[1], variable(82)) && slices.EqualFunc(t.Kids, was.Kids, typeStays)
}

// spoil changes all that t has, the spare room of its lists too.
func spoil(t api.Type) {
	l := t.Kids[:cap(t.Kids)]
	for i := range l {
		spoil(l[i])
		l[i] = api.Type{Op: "spoiled", N: -5}
	}
}

// some is expressions of each kind, well typed ones and others.
func some() (l []api.Node) {
	p := randomly(16)
	for i := range 400 {
		n := p.of(p.someType(8), nil, 2+i%60)
		if i%4 == 0 {
			n = p.turned(n, p.of(p.someType(3), nil, 3))
		}
		l = append(l, eachPlaced(n))
	}
	for _, g := range generals {
		l = append(l, g.n, node("pair", g.n, g.n), named("let", "x", g.n, node("pair", word("x"), node("pair", word("x"), word("x")))))
	}
	shared := node("pair", node("nil"), node("nil"))
	return append(l, node("pair", shared, shared), node("none", shared), api.Node{}, doubled(6, node("nil")), named("fun", "x", doubled(4, word("x"))))
}

// P11.3, W6: nothing that is handed in is changed.
func TestNothingIsChanged(t *testing.T) {
	p := randomly(17)
	for _, was := range some() {
		n := spareNode(was)
		got, _, _ := Of(n)
		wants := append(nones()[:15], swapped(got, p.someVars()), swapped(got, p.someVars()), variable(3), typ.Norm(got))
		for _, want := range wants {
			x := spareType(want)
			Fits(n, x)
			if !typeStays(x, want) {
				t.Fatalf("Fits changes %s", few(want))
			}
		}
		spoil(got)
		if !nodeStays(n, was) {
			t.Fatalf("%s is changed", few(was))
		}
	}
}

// W2, W6, W7: an answer is the same again, shares no memory with another, and
// stays what it is.
func TestAnswersStay(t *testing.T) {
	for _, n := range some() {
		places := map[*api.Type]bool{}
		var shared bool
		var walk func(t api.Type)
		walk = func(t api.Type) {
			l := t.Kids[:cap(t.Kids)]
			for i := range l {
				shared = shared || places[&l[i]]
				places[&l[i]] = true
				walk(l[i])
			}
		}
		got, at, err := Of(n)
		other, otherAt, otherErr := Of(n)
		walk(got)
		walk(other)
		text := typ.Show(got)
		if shared || typ.Show(other) != text || otherAt != at || otherErr != err {
			t.Fatalf("%s: %s, %s, shared: %v", few(n), few(got), few(other), shared)
		}
		spoil(other)
		Fits(n, num)
		if third, _, _ := Of(n); typ.Show(got) != text || typ.Show(third) != text {
			t.Fatalf("the answer of %s does not stay", few(n))
		}
	}
}

// W2: how goroutines run is not to be seen.
func TestAtOnce(t *testing.T) {
	l := some()
	var wants []string
	for _, n := range l {
		x, at, err := Of(n)
		wants = append(wants, fmt.Sprint(x, at, err))
	}
	var g sync.WaitGroup
	for range 8 {
		g.Go(func() {
			for i, n := range l {
				if x, at, err := Of(n); fmt.Sprint(x, at, err) != wants[i] {
					t.Errorf("%s: %s, want %s", few(n), few(x), few(wants[i]))
				}
			}
		})
	}
	g.Wait()
}

// Whatever the expression: what the document asks of it.
func FuzzInfer(f *testing.F) {
	for _, s := range []string{"", "\x00\x01\x02", "\x06\x00\x05\x01", "\x11\x00\x06\x01\x05\x02\x1e\x1d\x05\x00\x05\x01", "\x12\x01\x02\x1d\x05\x05\x21", strings.Repeat("\x11\x1e\x06\x05", 20)} {
		f.Add([]byte(s), byte(40))
		f.Add([]byte(s), byte(141))
	}
	f.Fuzz(func(t *testing.T, b []byte, how byte) {
		p := byBytes(b)
		room := 1 + int(how)%100
		var n api.Node
		if how < 100 {
			n = p.any(nil, room)
		} else {
			want := p.someType(6)
			n = p.of(want, nil, room)
			wantFits(t, n, want, true)
			if how%2 == 0 {
				n = p.turned(n, p.of(p.someType(3), nil, 3))
			}
		}
		n = eachPlaced(n)
		if wantExpected(t, n) {
			wantMostGeneral(t, p, n)
		}
	})
}
