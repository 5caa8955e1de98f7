package mirror

import (
	"bytes"
	"strconv"
	"strings"
)

// A disk has records, one behind the other. A record is a line of a name, of
// numbers and of the lengths of texts, and behind it these texts: its line says
// where it ends, so that a beginning of it is no record, and has no effect.
const (
	logName      = "log"  // the first record: an id, an epoch, and the texts that are the log in it
	announceName = "new"  // an epoch that is announced
	adoptName    = "keep" // an epoch, how many entries remain, and texts: these are the log in it
	entryName    = "add"  // a text: one entry more
)

// A kind is how the records of a name are decoded.
type kind struct {
	name    string
	numbers int // how many numbers there are before the lengths
	decode  func(c *content, numbers []int, texts []string) bool
}

func kinds() []kind {
	return []kind{
		{logName, 2, (*content).begin},
		{announceName, 1, (*content).announce},
		{adoptName, 2, (*content).adopt},
		{entryName, 0, (*content).extend},
	}
}

// encode returns a record.
func encode(name string, numbers []int, texts []string) []byte {
	out := []byte(name)
	for _, n := range numbers {
		out = strconv.AppendInt(append(out, ' '), int64(n), 10)
	}
	for _, text := range texts {
		out = strconv.AppendInt(append(out, ' '), int64(len(text)), 10)
	}
	out = append(out, '\n')
	for _, text := range texts {
		out = append(out, text...)
	}
	return out
}

// A content is what the records of a disk say.
type content struct {
	id        int
	announced int // the latest epoch that is known
	epoch     int // the epoch that the log was adopted in
	entries   []string
	size      int // how many bytes the records have
}

// read reads the records of a disk, up to what is none, or returns false if there
// is not even the first one: the disk is not formatted then.
func read(b []byte) (*content, bool) {
	c := &content{}
	if !bytes.HasPrefix(b, []byte(logName+" ")) {
		return nil, false
	}
	for c.take(b[c.size:]) {
	}
	return c, c.size > 0
}

// take decodes the record that bytes begin with, or returns false if there is none.
func (c *content) take(b []byte) bool {
	line, rest, ok := bytes.Cut(b, []byte{'\n'})
	if !ok {
		return false
	}
	name, words, _ := strings.Cut(string(line), " ")
	numbers, ok := readNumbers(words)
	if !ok {
		return false
	}
	for _, k := range kinds() {
		if k.name != name || len(numbers) < k.numbers {
			continue
		}
		texts, size, ok := readTexts(rest, numbers[k.numbers:])
		if !ok || !k.decode(c, numbers[:k.numbers], texts) {
			return false
		}
		c.size += len(line) + 1 + size
		return true
	}
	return false
}

// readNumbers reads numbers that are separated by blanks.
func readNumbers(words string) ([]int, bool) {
	var out []int
	for words != "" {
		word, rest, _ := strings.Cut(words, " ")
		n, err := strconv.Atoi(word)
		if err != nil || n < 0 {
			return nil, false
		}
		out = append(out, n)
		words = rest
	}
	return out, true
}

// readTexts reads texts of these lengths, and returns how many bytes they have.
func readTexts(b []byte, lengths []int) ([]string, int, bool) {
	var out []string
	size := 0
	for _, n := range lengths {
		if n > len(b)-size {
			return nil, 0, false
		}
		out = append(out, string(b[size:size+n]))
		size += n
	}
	return out, size, true
}

func (c *content) begin(numbers []int, texts []string) bool {
	if c.size > 0 {
		return false
	}
	c.id, c.announced, c.epoch = numbers[0], numbers[1], numbers[1]
	c.entries = texts
	return true
}

func (c *content) announce(numbers []int, texts []string) bool {
	if len(texts) > 0 {
		return false
	}
	c.announced = max(c.announced, numbers[0])
	return true
}

func (c *content) adopt(numbers []int, texts []string) bool {
	epoch, keep := numbers[0], numbers[1]
	if keep > len(c.entries) {
		return false
	}
	c.announced = max(c.announced, epoch)
	c.epoch = epoch
	c.entries = append(c.entries[:keep], texts...)
	return true
}

func (c *content) extend(_ []int, texts []string) bool {
	if len(texts) != 1 {
		return false
	}
	c.entries = append(c.entries, texts[0])
	return true
}
