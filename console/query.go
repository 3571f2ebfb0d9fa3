package console

import (
	"strings"

	"portmanteau/num"
)

const (
	mostNumber = 10000000
	mostBytes  = 200
	noBytes    = "-"
	digits     = "0123456789abcdef"
)

// Kinds of words.
const (
	aPath   = 'P'
	aNumber = 'N'
)

// query is a line that was understood.
type query struct {
	verb    string
	paths   []string
	numbers []int
	bytes   []byte
}

// shape tells what words a verb has behind it, a letter each.
func shape(verb string) (string, bool) {
	switch verb {
	case "dir", "fifo", "drop", "unpack", "restore", "text":
		return "P", true
	case "file", "sym":
		return "PB", true
	case "link":
		return "PP", true
	case "write":
		return "PNB", true
	case "grow":
		return "PN", true
	case "set":
		return "PNNNN", true
	case "pack", "append":
		return "PNNN", true
	case "list", "snap":
		return "", true
	case "incr":
		return "N", true
	}
	return "", false
}

// parse tells the query of a line.
func parse(line string) (query, bool) {
	words := strings.Split(line, " ")
	q := query{verb: words[0]}
	kinds, ok := shape(q.verb)
	words = words[1:]
	if !ok || len(words) != len(kinds) {
		return query{}, false
	}
	for i, word := range words {
		if !q.take(kinds[i], word) {
			return query{}, false
		}
	}
	return q, true
}

// take takes a word of a kind.
func (q *query) take(kind byte, word string) bool {
	switch kind {
	case aPath:
		q.paths = append(q.paths, word)
		return word != ""
	case aNumber:
		n, ok := num.Number(word)
		q.numbers = append(q.numbers, n)
		return ok && n >= 0 && n <= mostNumber
	}
	b, ok := unhexed(word)
	q.bytes = b
	return ok
}

// unhexed tells the bytes of a word.
func unhexed(word string) ([]byte, bool) {
	if word == noBytes {
		return nil, true
	}
	if word == "" || len(word)%2 > 0 || len(word)/2 > mostBytes {
		return nil, false
	}
	var b []byte
	for i := 0; i < len(word); i += 2 {
		high, low := strings.IndexByte(digits, word[i]), strings.IndexByte(digits, word[i+1])
		if high < 0 || low < 0 {
			return nil, false
		}
		b = append(b, byte(high<<4|low))
	}
	return b, true
}
