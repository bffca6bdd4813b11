package source

import "strings"

// tokenKind is what a word of a program is.
type tokenKind int

const (
	wrongToken  tokenKind = iota // what is no token, and so can stand nowhere
	endToken                     // the end of the text
	wordToken                    // a word that is none of the language
	numberToken                  // a number, however great
	fnToken
	letToken
	needToken
	ifToken
	thenToken
	elseToken
	openToken
	closeToken
	commaToken
	endingToken // ;
	isToken     // =
	sameToken   // ==
	plusToken
	minusToken
	timesToken
	overToken
)

// token is a word of a program, and where it begins.
type token struct {
	kind tokenKind
	at   int
	text string
}

// tokenAt gives the first token that begins at a place or behind it.
func tokenAt(text string, at int) token {
	at = pastBlanks(text, at)
	rest := text[at:]
	if rest == "" {
		return token{kind: endToken, at: at}
	}
	if n := wordLength(rest); n > 0 {
		return token{kind: wordKind(rest[:n]), at: at, text: rest[:n]}
	}
	kind, n := sign(rest)
	return token{kind: kind, at: at, text: rest[:n]}
}

// pastBlanks gives the first place, from one on, at which no blank and no remark stands.
func pastBlanks(text string, at int) int {
	for at < len(text) {
		switch text[at] {
		case ' ', '\t', '\n':
			at++
		case '#':
			at += lineLength(text[at:])
		default:
			return at
		}
	}
	return at
}

// lineLength tells how many bytes stand ahead of the end of the first line.
func lineLength(text string) int {
	if n := strings.IndexByte(text, '\n'); n >= 0 {
		return n
	}
	return len(text)
}

// wordLength tells how many letters, digits and _ stand side by side at the beginning.
func wordLength(text string) int {
	for i := range len(text) {
		if c := text[i]; !isLetter(c) && !isDigit(c) && c != '_' {
			return i
		}
	}
	return len(text)
}

func isLetter(c byte) bool { return 'a' <= c && c <= 'z' || 'A' <= c && c <= 'Z' }

func isDigit(c byte) bool { return '0' <= c && c <= '9' }

// wordKind tells what letters, digits and _ side by side are.
func wordKind(text string) tokenKind {
	if isLetter(text[0]) {
		return languageWord(text)
	}
	if text != "0" && text[0] == '0' {
		return wrongToken
	}
	for i := range len(text) {
		if !isDigit(text[i]) {
			return wrongToken
		}
	}
	return numberToken
}

// languageWord tells which word of the language it is; wordToken: none.
func languageWord(text string) tokenKind {
	switch text {
	case "fn":
		return fnToken
	case "let":
		return letToken
	case "need":
		return needToken
	case "if":
		return ifToken
	case "then":
		return thenToken
	case "else":
		return elseToken
	}
	return wordToken
}

// sign tells which sign a text begins with, and how long it is.
func sign(text string) (tokenKind, int) {
	if strings.HasPrefix(text, "==") {
		return sameToken, 2
	}
	switch text[0] {
	case '(':
		return openToken, 1
	case ')':
		return closeToken, 1
	case ',':
		return commaToken, 1
	case ';':
		return endingToken, 1
	case '=':
		return isToken, 1
	case '+':
		return plusToken, 1
	case '-':
		return minusToken, 1
	case '*':
		return timesToken, 1
	case '/':
		return overToken, 1
	}
	return wrongToken, 1
}
