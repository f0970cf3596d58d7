// Package octets puts numbers and texts as bytes, one behind the other, and reads them again.
package octets

import "pleach/api"

// ofByte is how many numbers a byte can be.
const ofByte = 256

// Pen puts numbers and texts as bytes.
type Pen struct {
	text []byte
	over bool // a number could not stand where it was put
}

// Bytes puts numbers, a byte each.
func (p *Pen) Bytes(numbers ...int) { p.put(ofByte, numbers...) }

// Pairs puts numbers, two bytes each, the higher one first.
func (p *Pen) Pairs(numbers ...int) { p.put(ofByte*ofByte, numbers...) }

// Text puts a text, with how many bytes it has ahead.
func (p *Pen) Text(s string) {
	p.Bytes(len(s))
	if !p.over {
		p.text = append(p.text, s...)
	}
}

// Written tells all that was put; ErrRange, if a number could not stand where it was put.
func (p *Pen) Written() (string, api.Errno) {
	if p.over {
		return "", api.ErrRange
	}
	return string(p.text), api.OK
}

// put has numbers behind what was put, each of the bytes that the numbers from 0 to below need.
func (p *Pen) put(below int, numbers ...int) {
	for _, n := range numbers {
		if n < 0 || n >= below {
			p.over = true
		}
		if p.over {
			return // nothing of it will be told: it need not grow
		}
		for place := below / ofByte; place > 0; place /= ofByte {
			p.text = append(p.text, byte(n/place))
		}
	}
}
