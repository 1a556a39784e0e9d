package console

import (
	"strconv"
	"strings"

	"counterfoil/api"
)

const (
	maxNumber = 999
	nothing   = "-" // an empty text, or an empty list
)

// command is a line that could be read. What its name has no use for is zero.
type command struct {
	name    string
	numbers [3]int
	data    string
}

// shape returns how many numbers follow the name of a command, and whether a
// text follows these; ok is false if there is no such command.
func shape(name string) (numbers int, hasData, ok bool) {
	switch name {
	case "snap", "forget", "points", "blocks", "save":
		return 0, false, true
	case "size", "unsnap", "full", "again", "drop", "show", "mount", "unmount", "arm", "restart":
		return 1, false, true
	case "changed", "keep", "read":
		return 2, false, true
	case "more":
		return 3, false, true
	case "write":
		return 1, true, true
	case "over":
		return 2, true, true
	}
	return 0, false, false
}

// parse reads a line.
func parse(line string) (command, error) {
	if len(line) > api.MaxLine {
		return command{}, api.ErrText
	}
	words := strings.Split(line, " ")
	c := command{name: words[0]}
	rest := words[1:]
	numbers, hasData, ok := shape(c.name)
	if hasData && len(rest) > 0 {
		last := len(rest) - 1
		c.data, ok = dataOf(rest[last])
		rest = rest[:last]
	}
	if !ok || len(rest) != numbers {
		return command{}, api.ErrText
	}
	for k, w := range rest {
		if c.numbers[k], ok = number(w); !ok {
			return command{}, api.ErrText
		}
	}
	return c, nil
}

func number(word string) (int, bool) {
	n, err := strconv.Atoi(word)
	// Only a number without a sign and leading zeros is printed as it was read.
	if err != nil || n < 0 || n > maxNumber || strconv.Itoa(n) != word {
		return 0, false
	}
	return n, true
}

// dataOf returns the text that a word stands for. Between two spaces that follow
// each other, or after one at the end of a line, there is no word.
func dataOf(word string) (string, bool) {
	if word == nothing {
		return "", true
	}
	return word, word != ""
}

// wordFor returns the word that stands for a text.
func wordFor(data string) string {
	if data == "" {
		return nothing
	}
	return data
}

func spaced(words ...string) string { return list(" ", words...) }

func list(separator string, items ...string) string {
	if len(items) == 0 {
		return nothing
	}
	return strings.Join(items, separator)
}

func failure(err error) string {
	// Every error of every layer is an api.Errno (Z3).
	n, _ := err.(api.Errno)
	return spaced("error", strconv.Itoa(int(n)))
}
