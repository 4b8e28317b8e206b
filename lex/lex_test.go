package lex

import (
	"math/rand"
	"regexp"
	"slices"
	"strconv"
	"strings"
	"testing"

	"emissary/api"
)

const wordsInOrder = "let rec in fun if then else match with try raise true false fst snd ref cell tag links link size print"

// allSigns is the signs as the document has them.
var allSigns = strings.Fields(":= :: -> ( ) [ ] , ; = < + - * ^ ! |")

// piece is what a text may go on with, by the library: blanks, a name, a
// number, a string with its quotes, a sign.
var piece = regexp.MustCompile("^(?:([ \t\n]+)|([a-z][a-z0-9_']*)|([0-9]+)|(\"[ !#-~]*\")|(:=|::|->|[][(),;=<+*^!|-]))")

func nameAt(s string, at int) api.Token { return api.Token{Kind: api.Name, Text: s, At: at} }
func wordAt(s string, at int) api.Token { return api.Token{Kind: api.Word, Text: s, At: at} }
func numAt(n int64, at int) api.Token   { return api.Token{Kind: api.Num, N: n, At: at} }
func strAt(s string, at int) api.Token  { return api.Token{Kind: api.Str, Text: s, At: at} }
func endAt(at int) api.Token            { return api.Token{Kind: api.End, At: at} }

// expected is what the document asks of s, by the library.
func expected(s string) (l []api.Token, at int, err api.Errno) {
	if len(s) > 2000 {
		return nil, 0, api.ErrLimit
	}
	for at < len(s) {
		m := piece.FindStringSubmatch(s[at:])
		if m == nil {
			return nil, at, api.ErrForm
		}
		name, digits, quoted, sign := m[2], m[3], m[4], m[5]
		switch {
		case len(name) > 12, len(digits) > 18, len(digits) > 1 && digits[0] == '0', len(quoted) > 42:
			return nil, at, api.ErrForm
		case name != "" && slices.Contains(strings.Fields(wordsInOrder), name):
			l = append(l, wordAt(name, at))
		case name != "":
			l = append(l, nameAt(name, at))
		case digits != "":
			n, _ := strconv.ParseInt(digits, 10, 64)
			l = append(l, numAt(n, at))
		case quoted != "":
			l = append(l, strAt(quoted[1:len(quoted)-1], at))
		case sign != "":
			l = append(l, wordAt(sign, at))
		}
		at += len(m[0])
	}
	return append(l, endAt(at)), at, api.OK
}

// few is what a message tells of s.
func few(s string) string { return s[:min(len(s), 60)] }

// wantTokens holds the tokens of s against want and End.
func wantTokens(t *testing.T, s string, want ...api.Token) {
	t.Helper()
	l, at, err := Tokens(s)
	if want = append(slices.Clone(want), endAt(len(s))); !slices.Equal(l, want) || at != len(s) || err != api.OK {
		t.Errorf("Tokens(%q): %v, %d, %v, want %v, %d, OK", few(s), l, at, err, want, len(s))
	}
}

// wantForm holds s to be refused at the place.
func wantForm(t *testing.T, s string, place int) {
	t.Helper()
	if l, at, err := Tokens(s); l != nil || at != place || err != api.ErrForm {
		t.Errorf("Tokens(%q): %v, %d, %v, want nil, %d, ErrForm", few(s), l, at, err, place)
	}
}

// wantExpected holds s against what the library makes of it.
func wantExpected(t *testing.T, s string) {
	t.Helper()
	l, at, err := Tokens(s)
	if want, place, fault := expected(s); !slices.Equal(l, want) || at != place || err != fault {
		t.Errorf("Tokens(%q): %v, %d, %v, want %v, %d, %v", few(s), l, at, err, want, place, fault)
	}
}

// P4.1
func TestWordsInOrder(t *testing.T) {
	if got := strings.Join(Words(), " "); got != wordsInOrder {
		t.Errorf("Words: %s, want %s", got, wordsInOrder)
	}
}

// P4.1: a word is a Word; a byte more makes it a name, a byte less too, if that
// is none.
func TestEachWord(t *testing.T) {
	words := strings.Fields(wordsInOrder)
	for _, w := range words {
		wantTokens(t, w, wordAt(w, 0))
		wantTokens(t, " "+w+"\n", wordAt(w, 1))
		for _, c := range "abcdefghijklmnopqrstuvwxyz0123456789_'" {
			longer := w + string(c)
			if longer == "links" {
				wantTokens(t, longer, wordAt(longer, 0))
			} else {
				wantTokens(t, longer, nameAt(longer, 0))
			}
		}
		shorter := w[:len(w)-1]
		if slices.Contains(words, shorter) {
			wantTokens(t, shorter, wordAt(shorter, 0))
		} else {
			wantTokens(t, shorter, nameAt(shorter, 0))
		}
		wantTokens(t, "x"+w, nameAt("x"+w, 0))
		wantTokens(t, "1"+w, numAt(1, 0), wordAt(w, 1))
		wantTokens(t, w+"("+w, wordAt(w, 0), wordAt("(", len(w)), wordAt(w, len(w)+1))
		wantTokens(t, `"`+w+`"`, strAt(w, 0))
		wantForm(t, strings.ToUpper(w), 0)
		wantForm(t, w+" "+strings.ToUpper(w), len(w)+1)
	}
	wantTokens(t, "letrec let rec", nameAt("letrec", 0), wordAt("let", 7), wordAt("rec", 11))
}

// P4.1
func TestNames(t *testing.T) {
	for c := byte('a'); c <= 'z'; c++ {
		wantTokens(t, string(c), nameAt(string(c), 0))
	}
	for _, s := range []string{"a0123456789", "z_'", "a__", "a''", "x'1_b", "f9"} {
		wantTokens(t, s, nameAt(s, 0))
	}
	for n := 1; n <= api.MaxName; n++ {
		s := strings.Repeat("z", n)
		wantTokens(t, s, nameAt(s, 0))
		wantTokens(t, s+" "+s, nameAt(s, 0), nameAt(s, n+1))
	}
	wantTokens(t, "abcdefghijk'", nameAt("abcdefghijk'", 0))
}

// P4.1: every byte behind a name: part of it, the beginning of what follows, or
// an error.
func TestEveryByteBehindAName(t *testing.T) {
	for c := range 256 {
		for _, more := range []string{"", "b", "=", "\""} {
			wantExpected(t, "ab"+string([]byte{byte(c)})+more)
		}
	}
	wantTokens(t, "a_b", nameAt("a_b", 0))
	wantForm(t, "aB", 1)
	wantForm(t, "a.b", 1)
	wantForm(t, "a{b", 1)
	wantForm(t, "a`b", 1)
}

// P4.1
func TestNumbers(t *testing.T) {
	for _, n := range []int64{0, 1, 9, 10, 11, 99, 100, 101, 1234567890, 1<<31 - 1, 1 << 31, 1 << 32, 99999999999999999, 100000000000000000, 123456789012345678, 999999999999999999} {
		s := strconv.FormatInt(n, 10)
		wantTokens(t, s, numAt(n, 0))
		wantTokens(t, "\t"+s+"x", numAt(n, 1), nameAt("x", len(s)+1))
	}
	for n := range 2000 {
		wantTokens(t, strconv.Itoa(n), numAt(int64(n), 0))
	}
	wantTokens(t, "-5", wordAt("-", 0), numAt(5, 1))
	wantTokens(t, "0 0", numAt(0, 0), numAt(0, 2))
	wantTokens(t, "0x1", numAt(0, 0), nameAt("x1", 1))
	wantForm(t, "1'", 1)
	wantForm(t, "1_000", 1)
}

// P4.1, P4.3: what stands between the quotes, blanks too, and no number.
func TestStrings(t *testing.T) {
	for _, s := range []string{"", " ", "  ", "~", "a", "let", "12", "\\", "\\n", "'", "(:=)", "!#$%&", strings.Repeat("x", api.MaxStr-1), strings.Repeat(" ", api.MaxStr)} {
		wantTokens(t, `"`+s+`"`, strAt(s, 0))
		wantTokens(t, `a"`+s+`"b`, nameAt("a", 0), strAt(s, 1), nameAt("b", len(s)+3))
		wantTokens(t, `"`+s+`""`+s+`"`, strAt(s, 0), strAt(s, len(s)+2))
	}
	for c := byte(' '); c <= '~'; c++ {
		if c != '"' {
			wantTokens(t, `"`+string(c)+`"`, strAt(string(c), 0))
		}
	}
}

// P4.1
func TestEachSign(t *testing.T) {
	for _, a := range allSigns {
		wantTokens(t, a, wordAt(a, 0))
		wantTokens(t, "x"+a+"y", nameAt("x", 0), wordAt(a, 1), nameAt("y", 1+len(a)))
		wantTokens(t, "\n"+a+" "+a, wordAt(a, 1), wordAt(a, 2+len(a)))
		for _, b := range allSigns {
			wantExpected(t, a+b)
			wantTokens(t, a+" "+b, wordAt(a, 0), wordAt(b, len(a)+1))
			for _, c := range allSigns {
				wantExpected(t, a+b+c)
			}
		}
	}
}

// P4.1, P4.2
func TestLongestSign(t *testing.T) {
	wantTokens(t, "->", wordAt("->", 0))
	wantTokens(t, "-->", wordAt("-", 0), wordAt("->", 1))
	wantTokens(t, "- (", wordAt("-", 0), wordAt("(", 2))
	wantTokens(t, ":=", wordAt(":=", 0))
	wantTokens(t, "::", wordAt("::", 0))
	wantTokens(t, "::=", wordAt("::", 0), wordAt("=", 2))
	wantTokens(t, ":==", wordAt(":=", 0), wordAt("=", 2))
	wantTokens(t, "::::", wordAt("::", 0), wordAt("::", 2))
	wantTokens(t, ":::=", wordAt("::", 0), wordAt(":=", 2))
	wantForm(t, "- >", 2)
	wantForm(t, ":::", 2)
	wantForm(t, ": =", 0)
	wantForm(t, ": :", 0)
	wantForm(t, "->>", 2)
}

// P4.1
func TestBlanksBetween(t *testing.T) {
	for _, blank := range []string{" ", "\t", "\n", "  ", " \t\n", "\n\n\n", strings.Repeat(" ", 300)} {
		n := len(blank)
		wantTokens(t, blank)
		wantTokens(t, blank+"a"+blank+"1"+blank+"::"+blank+`"s"`+blank+"in"+blank,
			nameAt("a", n), numAt(1, 2*n+1), wordAt("::", 3*n+2), strAt("s", 4*n+4), wordAt("in", 5*n+7))
	}
	wantTokens(t, `a1:="s"in`, nameAt("a1", 0), wordAt(":=", 2), strAt("s", 4), wordAt("in", 7))
	wantTokens(t, "x:=1", nameAt("x", 0), wordAt(":=", 1), numAt(1, 3))
}

// P4.1, P4.2: of all bytes three are blanks.
func TestOtherBlanks(t *testing.T) {
	for _, s := range []string{"\r", "\v", "\f", "\x00", "\u00a0", "\u2003", "\x85", "\xa0"} {
		wantForm(t, s, 0)
		wantForm(t, "a "+s+" b", 2)
		wantForm(t, "a\n"+s+"\nb", 2)
	}
}

// P4.1
func TestEnd(t *testing.T) {
	wantTokens(t, "")
	for _, s := range []string{"", " ", "a", "a ", "1", "1\n", ":=", `""`, " \t\n", "let x = 1 in x"} {
		l, at, err := Tokens(s)
		if len(l) == 0 || l[len(l)-1] != endAt(len(s)) || at != len(s) || err != api.OK {
			t.Errorf("Tokens(%q): %v, %d, %v, want End at %d", s, l, at, err, len(s))
		}
		for i, x := range l {
			if (x.Kind == api.End) != (i == len(l)-1) {
				t.Errorf("Tokens(%q): %v, where one End is the last", s, l)
			}
		}
	}
}

// P4.1
func TestLongestText(t *testing.T) {
	for _, s := range []string{
		strings.Repeat(" ", api.MaxText), strings.Repeat("(", api.MaxText), strings.Repeat("::", api.MaxText/2),
		strings.Repeat("a ", api.MaxText/2), strings.Repeat(`""`, api.MaxText/2), strings.Repeat("0 ", api.MaxText/2),
	} {
		wantExpected(t, s)
		if _, at, err := Tokens(s); at != api.MaxText || err != api.OK {
			t.Errorf("Tokens(%q) of MaxText bytes: %d, %v", few(s), at, err)
		}
		for _, longer := range []string{s + " ", s + "?", "?" + s, s + "\x00", s + s} {
			if l, at, err := Tokens(longer); l != nil || at != 0 || err != api.ErrLimit {
				t.Errorf("Tokens(%q), %d bytes: %v, %d, %v, want nil, 0, ErrLimit", few(longer), len(longer), l, at, err)
			}
		}
	}
	wantForm(t, strings.Repeat(" ", api.MaxText-1)+"?", api.MaxText-1)
}

// W1, P4.1
func TestFarTooLong(t *testing.T) {
	for _, c := range []string{"a", "1", `"`, " ", "?"} {
		if l, at, err := Tokens(strings.Repeat(c, 1<<20)); l != nil || at != 0 || err != api.ErrLimit {
			t.Errorf("a text of %q: %v, %d, %v, want nil, 0, ErrLimit", c, l, at, err)
		}
	}
}

// P4.2
func TestEveryByteAtTheBeginning(t *testing.T) {
	const begins = "abcdefghijklmnopqrstuvwxyz0123456789()[],;=<+-*^!| \t\n"
	for c := range 256 {
		s := string([]byte{byte(c)})
		wantExpected(t, s)
		if strings.Contains(begins, s) {
			if _, at, err := Tokens(s); at != 1 || err != api.OK {
				t.Errorf("Tokens(%q): %d, %v, want 1, OK", s, at, err)
			}
			continue
		}
		wantForm(t, s, 0)
		wantForm(t, "  "+s, 2)
		wantForm(t, "f\t"+s+" b", 2)
		wantForm(t, "12)"+s, 3)
	}
	for a := range 256 {
		for b := range 256 {
			wantExpected(t, string([]byte{byte(a), byte(b)}))
		}
	}
}

// P4.2
func TestStringThatDoesNotEnd(t *testing.T) {
	for _, s := range []string{`"`, `"a`, `"a b ~`, `"` + strings.Repeat("a", api.MaxStr), `"` + strings.Repeat("a", 1990)} {
		wantForm(t, s, 0)
		wantForm(t, "x "+s, 2)
		wantForm(t, `""`+s, 2)
	}
	wantForm(t, `"""`, 2)
	wantForm(t, `"a" "b`, 4)
}

// P4.2: a byte that may not stand in a string, at each of its places.
func TestEveryByteInAString(t *testing.T) {
	for c := range 256 {
		s := string([]byte{byte(c)})
		for _, x := range []string{`"` + s + `"`, `"` + s + `ab"`, `"a` + s + `b"`, `"ab` + s + `"`, `"ab` + s} {
			wantExpected(t, x)
			if c < ' ' || c > '~' {
				wantForm(t, x, 0)
				wantForm(t, "x = "+x, 4)
			}
		}
	}
	wantForm(t, "\"a\nb\"", 0)
	wantForm(t, "\"é\"", 0)
	wantTokens(t, `"\"`, strAt(`\`, 0))
	wantForm(t, `"\""`, 3)
}

// P4.2
func TestStringTooLong(t *testing.T) {
	for _, n := range []int{api.MaxStr + 1, api.MaxStr + 2, 2 * api.MaxStr, api.MaxText - 5} {
		s := `"` + strings.Repeat("a", n) + `"`
		wantForm(t, s, 0)
		wantForm(t, "a "+s, 2)
		wantForm(t, s+"?", 0)
	}
	most := `"` + strings.Repeat("a", api.MaxStr) + `"`
	wantTokens(t, most+most, strAt(most[1:api.MaxStr+1], 0), strAt(most[1:api.MaxStr+1], api.MaxStr+2))
}

// P4.2
func TestNameTooLong(t *testing.T) {
	for _, n := range []int{api.MaxName + 1, api.MaxName + 2, 2 * api.MaxName, api.MaxText - 5} {
		for _, c := range []string{"a", "0", "_", "'"} {
			s := "z" + strings.Repeat(c, n-1)
			wantForm(t, s, 0)
			wantForm(t, "a\n"+s, 2)
			wantForm(t, s+" ?", 0)
		}
	}
	wantForm(t, "let"+strings.Repeat("t", api.MaxName-2), 0)
}

// P4.2
func TestNumberTooLong(t *testing.T) {
	for _, s := range []string{
		"1000000000000000000", "9999999999999999999", "9223372036854775807", "9223372036854775808", "18446744073709551616",
		strings.Repeat("1", 100), strings.Repeat("9", api.MaxText-5),
	} {
		wantForm(t, s, 0)
		wantForm(t, "1 "+s, 2)
		wantForm(t, s+"?", 0)
		wantForm(t, "x="+s+"a", 2)
	}
}

// P4.2
func TestNumberThatBeginsWithNought(t *testing.T) {
	for _, s := range []string{"00", "01", "09", "000", "0123", "000000000000000000", "0000000000000000001", strings.Repeat("0", 1000)} {
		wantForm(t, s, 0)
		wantForm(t, "0 "+s, 2)
		wantForm(t, s+"x", 0)
	}
	wantTokens(t, "0 10 100", numAt(0, 0), numAt(10, 2), numAt(100, 5))
}

// P4.2: whatever faults are behind it, the first one is told.
func TestFirstError(t *testing.T) {
	faults := []string{"?", ":", "A", "_", "'", "\r", "\xff", `"`, "\"\t\"", `"` + strings.Repeat("a", 41) + `"`, strings.Repeat("a", 13), strings.Repeat("1", 19), "00"}
	for _, a := range faults {
		wantForm(t, a, 0)
		for _, b := range faults {
			// A line feed parts them, so that the quote of b ends no string of a.
			wantForm(t, a+"\n"+b, 0)
			wantForm(t, "let x\n"+a+"\n"+b, 6)
			wantForm(t, "let x\n"+a+" y", 6)
		}
	}
}

// P4.1, P4.2: every text of up to four of these bytes.
func TestEveryShortText(t *testing.T) {
	const some = "ai_'01 \n\"~:=->(\r"
	texts := []string{""}
	for range 4 {
		var longer []string
		for _, s := range texts {
			for i := range len(some) {
				longer = append(longer, s+some[i:i+1])
			}
		}
		for _, s := range longer {
			wantExpected(t, s)
		}
		texts = longer
	}
}

// P4.1, P4.2
func TestTextsOfManyPieces(t *testing.T) {
	pieces := slices.Concat(Words(), allSigns, []string{
		" ", "\t", "\n", "x", "abcdefghijkl", "a'", "b_2", "0", "7", "10", "999999999999999999", `""`, `"a b"`,
		`"` + strings.Repeat("~", api.MaxStr) + `"`,
	})
	wrong := []string{":", "?", "Z", `"`, "00", "\x80"}
	r := rand.New(rand.NewSource(4))
	for range 5000 {
		var s strings.Builder
		for range r.Intn(80) {
			s.WriteString(pieces[r.Intn(len(pieces))])
			if r.Intn(3) > 0 {
				s.WriteString(" \t\n"[r.Intn(3):])
			}
			if r.Intn(200) == 0 {
				s.WriteString(wrong[r.Intn(len(wrong))])
			}
		}
		wantExpected(t, s.String())
	}
}

// P4.3, W5: each kind has what is its own, and nothing else.
func TestFieldsOfEachKind(t *testing.T) {
	l, _, _ := Tokens(`ab 12 "cd" in + 0 ""`)
	want := []api.Token{
		{Kind: api.Name, Text: "ab", At: 0}, {Kind: api.Num, Text: "", N: 12, At: 3}, {Kind: api.Str, Text: "cd", N: 0, At: 6},
		{Kind: api.Word, Text: "in", At: 11}, {Kind: api.Word, Text: "+", At: 14}, {Kind: api.Num, At: 16}, {Kind: api.Str, At: 18},
		{Kind: api.End, At: 20},
	}
	if !slices.Equal(l, want) {
		t.Errorf("%v, want %v", l, want)
	}
}

// filled changes all of l, its spare room too.
func filled[T any](l []T, x T) {
	l = l[:cap(l)]
	for i := range l {
		l[i] = x
	}
}

// P4.3, W6, W7
func TestTokensAreNewMemory(t *testing.T) {
	for _, s := range []string{"", " ", "x:=1", `let rec f x = "s" in f 12`, strings.Repeat("( ", 700)} {
		want, _, _ := expected(s)
		first, _, _ := Tokens(s)
		second, _, _ := Tokens(s)
		filled(first, wordAt("changed", 99))
		if !slices.Equal(second, want) {
			t.Errorf("Tokens(%q): another answer is changed", few(s))
		}
		wantExpected(t, s)
		Tokens("another text of other words")
		Tokens("00")
		if !slices.Equal(second, want) {
			t.Errorf("Tokens(%q): the answer does not stay", few(s))
		}
	}
}

// P4.3, W6, W7: what is done to the words that were answered neither changes
// the words nor what is a Word.
func TestWordsAreNewMemory(t *testing.T) {
	want := strings.Fields(wordsInOrder)
	first, second := Words(), Words()
	filled(first, "x")
	if !slices.Equal(second, want) || !slices.Equal(Words(), want) {
		t.Errorf("Words: %v and %v, want %v", second, Words(), want)
	}
	wantTokens(t, "let x", wordAt("let", 0), nameAt("x", 4))
	wantTokens(t, "print", wordAt("print", 0))
}

// Whatever the text: what the library makes of it.
func FuzzTokens(f *testing.F) {
	for _, s := range []string{"", "x:=1", `let rec f x = "s" in f 12`, "::=->()[],;=<+-*^!|", "00", `"`, "a ?", "\xff"} {
		f.Add(s)
	}
	f.Fuzz(wantExpected)
}
