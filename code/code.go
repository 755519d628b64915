// Package code: keys and short forms: see chapter 2.
package code

import (
	"bedrock/api"
)

// A part of a key begins with a mark. That of a number is how many bytes it has behind the mark, so that longer numbers, which are the greater ones, come later; that of a text is above all of these.
const (
	mostBytes = 8 // of a number
	textMark  = mostBytes + 1
)

// A text ends with the byte end. The bytes end and escape have escape ahead of them, and are one higher then: so each byte of a text is above its end, and all stay in their order.
const (
	end byte = iota
	escape
)

// Key: the bytes of a key, ordered as keys are: the forms of its parts, one behind the other.
func Key(parts []api.Part) ([]byte, error) {
	if len(parts) > api.MaxParts {
		return nil, api.ErrMany
	}
	var out []byte
	for _, p := range parts {
		if err := check(p); err != nil {
			return nil, err
		}
		switch p.Kind {
		case api.Number:
			out = addNumber(out, p.Num)
		case api.Text:
			out = addText(out, p.Text)
		}
	}
	return out, nil
}

// check tells what is wrong with a part.
func check(p api.Part) error {
	switch p.Kind {
	case api.Number:
		if p.Text != "" {
			return api.ErrArg
		}
	case api.Text:
		if p.Num != 0 {
			return api.ErrArg
		}
		if len(p.Text) > api.MaxPart {
			return api.ErrLong
		}
	default:
		return api.ErrArg
	}
	return nil
}

// addNumber adds a number's form to out: its bytes from the first that is not 0 on, the highest one first.
func addNumber(out []byte, n uint64) []byte {
	size := 0
	for size < mostBytes && n>>(8*size) > 0 {
		size++
	}
	out = append(out, byte(size))
	for i := size - 1; i >= 0; i-- {
		out = append(out, byte(n>>(8*i)))
	}
	return out
}

// addText adds a text's form to out.
func addText(out []byte, s string) []byte {
	out = append(out, textMark)
	for i := range len(s) {
		if s[i] <= escape {
			out = append(out, escape, s[i]+1)
		} else {
			out = append(out, s[i])
		}
	}
	return append(out, end)
}

// Parts: the parts of the key that b is the bytes of.
func Parts(b []byte) ([]api.Part, error) {
	var out []api.Part
	for len(b) > 0 {
		p, size := firstPart(b)
		if size == 0 || len(out) == api.MaxParts {
			return nil, api.ErrForm
		}
		out = append(out, p)
		b = b[size:]
	}
	return out, nil
}

// firstPart is the part that b begins with, and how many bytes it takes: 0, if there is none.
func firstPart(b []byte) (api.Part, int) {
	p := api.Part{Kind: kindOf(b[0])}
	size := 0
	switch p.Kind {
	case api.Number:
		p.Num, size = firstNumber(b)
	case api.Text:
		p.Text, size = firstText(b)
	}
	return p, size
}

// kindOf is the kind of the part that has this mark: 0, if none has.
func kindOf(mark byte) api.PartKind {
	switch {
	case mark <= mostBytes:
		return api.Number
	case mark == textMark:
		return api.Text
	}
	return 0
}

// firstNumber is the number that b begins with, and how many bytes its form takes: 0, if it is not what addNumber makes.
func firstNumber(b []byte) (uint64, int) {
	size := 1 + int(b[0])
	if size > len(b) || size > 1 && b[1] == 0 {
		return 0, 0
	}
	var n uint64
	for _, x := range b[1:size] {
		n = n<<8 | uint64(x)
	}
	return n, size
}

// firstText is the text that b begins with, and how many bytes its form takes: 0, if it is not what addText makes.
func firstText(b []byte) (string, int) {
	var text []byte
	for i := 1; i < len(b) && len(text) <= api.MaxPart; i++ {
		switch b[i] {
		case end:
			return string(text), i + 1
		case escape:
			i++
			if i == len(b) || b[i] == 0 || b[i] > escape+1 {
				return "", 0
			}
			text = append(text, b[i]-1)
		default:
			text = append(text, b[i])
		}
	}
	return "", 0
}
