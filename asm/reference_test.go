package asm_test

import (
	"cmp"
	"math/rand"
	"regexp"
	"slices"
	"strconv"
	"strings"
	"testing"

	"attest/api"
	"attest/asm"
	"attest/plain"
)

// The reference reads a line as a whole, and holds its words against patterns; of all faults it tells the first one.
var (
	wordPattern   = regexp.MustCompile("[^ \t]+")
	numberPattern = regexp.MustCompile(`^(?:0|-?[1-9][0-9]{0,17})$`)
	namePattern   = regexp.MustCompile(`^[a-z][a-z0-9_]{0,15}$`)
	labelPattern  = regexp.MustCompile(`^([a-z][a-z0-9_]{0,15}):$`)
)

// shapes: of each Op its word, and n or t for each word behind it.
var shapes = []string{"halt n", "add n n n", "sub n n n", "mul n n n", "div n n n", "set n n", "same n n n", "must n n", "jump t", "zero n t", "call t n", "back n", "take n", "pass n n"}

type wrong struct {
	at int
	is api.Errno
}

type reference struct {
	size   int
	list   [][]string // the words of each instruction
	places [][]int    // where these are
	labels map[string]int
	faults []wrong
}

func (r *reference) fault(at int, is api.Errno) { r.faults = append(r.faults, wrong{at, is}) }

func isLanguageWord(word string) bool { return slices.Contains(languageWords, word) }

func isReferenceName(word string) bool { return namePattern.MatchString(word) && !isLanguageWord(word) }

// fits tells whether a word is of a shape's kind.
func fits(kind, word string) bool {
	return numberPattern.MatchString(word) || kind == "t" && isReferenceName(word)
}

// against holds the words of a line, behind the first one, against kinds.
func (r *reference) against(words []string, places []int, kinds []string, end int) {
	for i := 1; i < max(len(words), len(kinds)+1); i++ {
		switch {
		case i >= len(words):
			r.fault(end, api.ErrSyntax)
		case i > len(kinds) || !fits(kinds[i-1], words[i]):
			r.fault(places[i], api.ErrSyntax)
		}
	}
}

// line takes one that has words, and is not the first such.
func (r *reference) line(words []string, places []int, end int) {
	if m := labelPattern.FindStringSubmatch(words[0]); m != nil && !isLanguageWord(m[1]) {
		if _, ok := r.labels[m[1]]; ok {
			r.fault(places[0], api.ErrSame)
		}
		r.labels[m[1]] = len(r.list)
		r.against(words, places, nil, end)
		return
	}
	op := slices.IndexFunc(shapes, func(s string) bool { return strings.HasPrefix(s, words[0]+" ") })
	if op < 0 {
		r.fault(places[0], api.ErrSyntax)
		return
	}
	if len(r.list) >= api.MaxCode {
		r.fault(places[0], api.ErrFull)
	}
	r.against(words, places, strings.Fields(shapes[op])[1:], end)
	r.list = append(r.list, words)
	r.places = append(r.places, places)
}

// text takes all lines.
func (r *reference) text(text string) {
	at, sized := 0, false
	for _, line := range strings.Split(text, "\n") {
		end := at + len(line)
		var words []string
		var places []int
		for _, pair := range wordPattern.FindAllStringIndex(strings.SplitN(line, ";", 2)[0], -1) {
			words = append(words, line[pair[0]:pair[1]])
			places = append(places, at+pair[0])
		}
		switch {
		case len(words) == 0:
		case sized:
			r.line(words, places, end)
		default:
			sized = true
			if words[0] != "size" {
				r.fault(places[0], api.ErrSyntax)
			}
			r.against(words, places, []string{"n"}, end)
			if len(r.faults) == 0 {
				r.size, _ = strconv.Atoi(words[1])
			}
		}
		at = end + 1
	}
	if !sized {
		r.fault(len(text), api.ErrSyntax)
	}
}

// code gives the instructions, where there was no fault yet.
func (r *reference) code() api.Code {
	c := api.Code{Size: r.size}
	for i, words := range r.list {
		is := [3]int{}
		for k, word := range words[1:] {
			n, err := strconv.Atoi(word)
			if err != nil {
				to, ok := r.labels[word]
				if !ok {
					r.fault(r.places[i][k+1], api.ErrName)
				}
				n = to
			}
			is[k] = n
		}
		op := slices.IndexFunc(shapes, func(s string) bool { return strings.HasPrefix(s, words[0]+" ") })
		c.List = append(c.List, ins(op, is[0], is[1], is[2]))
	}
	return c
}

// referenceParse is what Parse is to answer.
func referenceParse(text string) (api.Code, int, api.Errno) {
	if len(text) > api.MaxAsm {
		return api.Code{}, 0, api.ErrFull
	}
	r := &reference{labels: map[string]int{}}
	r.text(text)
	c := api.Code{}
	if len(r.faults) == 0 {
		c = r.code()
	}
	if len(r.faults) > 0 {
		first := slices.MinFunc(r.faults, func(a, b wrong) int { return cmp.Compare(a.at, b.at) })
		return api.Code{}, first.at, first.is
	}
	return c, 0, api.OK
}

// asReference sees that Parse answers as the reference does.
func asReference(t *testing.T, text string) api.Errno {
	t.Helper()
	want, wantAt, wantErr := referenceParse(text)
	got, at, err := asm.Parse(text)
	if plain.Told(err) != wantErr || at != wantAt || got.Size != want.Size || !slices.Equal(got.List, want.List) {
		t.Fatalf("Parse of %s: got %v, %d, %v, want %v, %d, %v", shortened(text), got, at, err, want, wantAt, wantErr)
	}
	return wantErr
}

func pick(r *rand.Rand, of ...string) string { return of[r.Intn(len(of))] }

// someWord draws one that fits a kind, most often.
func someWord(r *rand.Rand, kind string) string {
	if r.Intn(60) == 0 {
		return pick(r, "", "-0", "05", "-", "1000000000000000000", "x", "b:", "halt", "size", "A", "1x", "abcdefghijklmnopq", "0\r", ":", "_", "-a")
	}
	if kind == "t" && r.Intn(2) == 0 {
		return pick(r, "a", "b", "c", "d", "l1", "abcdefghijklmnop", "a_0")
	}
	return pick(r, "0", "1", "-1", "7", "-96", "999999999999999999", "-999999999999999999", "4096")
}

// someLine draws one: most often an instruction or a label.
func someLine(r *rand.Rand) string {
	blank := func() string { return pick(r, " ", " ", " ", "\t", "  ", " \t ") }
	line := pick(r, "", "", "", " ", "\t")
	switch r.Intn(8) {
	case 0:
		line += pick(r, "", "; size", ";halt 0")
	case 1, 2:
		line += pick(r, "a", "b", "c", "d", "l1", "abcdefghijklmnop", "a_0", "e1", "e2", "e3", "e4", "e5", "e6") + ":"
	default:
		for i, kind := range strings.Fields(shapes[r.Intn(len(shapes))]) {
			if i > 0 {
				line += blank()
				kind = someWord(r, kind)
			}
			line += kind
		}
	}
	if r.Intn(50) == 0 {
		line += blank() + pick(r, "x", "0", "a:", "halt 0", "\r")
	}
	return line + pick(r, "", "", "", " ", "\t", "; so", " ;x", " ; y;")
}

// someText draws one that is code, now and then.
func someText(r *rand.Rand) string {
	lines := []string{}
	for range r.Intn(3) {
		lines = append(lines, pick(r, "", " ", "; none", "\t;"))
	}
	lines = append(lines, pick(r, "size 1", "size 1", " size\t-3 ; so", "size 0;", "size 12", "size 65536 ", "size", "size 1 2", "halt 0", "size 01"))
	for range r.Intn(10) {
		lines = append(lines, someLine(r))
	}
	return strings.Join(lines, "\n") + pick(r, "", "\n")
}

// someBytes are those that a text is spoilt with.
const someBytes = " \t\n;:-_0159azhlt\r\x00\xff"

func TestI3TextsAreReadAsTheWordsSay(t *testing.T) {
	r := rand.New(rand.NewSource(16))
	met := map[api.Errno]int{}
	for range 60000 {
		text := someText(r)
		is := asReference(t, text)
		met[is]++
		if is == api.OK {
			c, _, _ := asm.Parse(text)
			again(t, c)
		}
		spoilt := []byte(text)
		if len(spoilt) > 0 {
			spoilt[r.Intn(len(spoilt))] = someBytes[r.Intn(len(someBytes))]
		}
		asReference(t, string(spoilt))
		asReference(t, text[:r.Intn(len(text)+1)])
	}
	for _, e := range []api.Errno{api.OK, api.ErrSyntax, api.ErrSame, api.ErrName} {
		if met[e] < 500 {
			t.Errorf("%v was met only %d times", e, met[e])
		}
	}
}

func TestP1AllBytes(t *testing.T) {
	r := rand.New(rand.NewSource(1))
	for range 20000 {
		b := make([]byte, r.Intn(40))
		for i := range b {
			b[i] = byte(r.Intn(256))
		}
		asReference(t, string(b))
		asReference(t, "size 1\n"+string(b))
	}
	for c := range 256 {
		for _, text := range []string{"size 1%halt 0", "size 1\nhalt%0", "size 1\nhalt 0%", "size 1\n%\nhalt 0", "size 1\n%a:\n", "size 1\na%:\njump a", "size 1\na:%\n", "size 1\na:\njump a%", "%size 1", "size%1", "size %", "size 1%"} {
			asReference(t, strings.ReplaceAll(text, "%", string([]byte{byte(c)})))
		}
	}
}

// TestI4CodeIsReadAgain: any code that is written is read as it was; and is written so, if what the promise asks is so.
func TestI4CodeIsReadAgain(t *testing.T) {
	r := rand.New(rand.NewSource(4))
	written := 0
	for range 30000 {
		c := api.Code{Size: r.Intn(9) - 2}
		n := r.Intn(8)
		may := true
		for range n {
			op := r.Intn(14)
			is := [3]int{}
			for k := range 3 {
				own := k < strings.Count(shapes[op], " ")
				if own || r.Intn(40) == 0 {
					is[k] = r.Intn(n+4) - 2
				}
				if own && r.Intn(30) == 0 {
					is[k] = int(r.Uint64()) >> r.Intn(10)
				}
				may = may && (own || is[k] == 0) && is[k] < 1e18 && is[k] > -1e18
			}
			c.List = append(c.List, ins(op, is[0], is[1], is[2]))
		}
		if !may {
			refuses(t, c, api.ErrRange)
			continue
		}
		written++
		again(t, c)
		text, _ := asm.Print(c)
		asReference(t, text)
	}
	if written < 5000 || written > 29000 {
		t.Errorf("%d of 30000 were written", written)
	}
}
