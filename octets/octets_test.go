package octets_test

import (
	"testing"

	"pleach/api"
	"pleach/octets"
)

// pair reads two numbers, of one byte and of two.
func pair(r *octets.Reader) [2]int { return [2]int{r.Byte(), r.Pair()} }

func TestWhatIsPutIsRead(t *testing.T) {
	p := &octets.Pen{}
	p.Bytes(1, 255)
	p.Pairs(256)
	b, e := p.Written()
	if b != "\x01\xff\x01\x00" || e != api.OK {
		t.Errorf("it is %q (%d)", b, e)
	}
	l, n, e := octets.Read(b, func(r *octets.Reader) [][2]int { return octets.List(r, pair) })
	if len(l) != 1 || l[0] != [2]int{255, 256} || n != 4 || e != api.OK {
		t.Errorf("it is read as %v, %d bytes (%d)", l, n, e)
	}
}

func TestWhatCanNotStandThere(t *testing.T) {
	for _, put := range []func(p *octets.Pen){
		func(p *octets.Pen) { p.Bytes(256) },
		func(p *octets.Pen) { p.Bytes(1, -1, 1) },
		func(p *octets.Pen) { p.Pairs(65536) },
		func(p *octets.Pen) { p.Pairs(-1) },
		func(p *octets.Pen) { p.Text(string(make([]byte, 256))) },
	} {
		p := &octets.Pen{}
		put(p)
		p.Bytes(1) // what comes behind mends nothing
		if b, e := p.Written(); b != "" || e != api.ErrRange {
			t.Errorf("it is %q (%d)", b, e)
		}
	}
}

func TestWhatEndsTooEarly(t *testing.T) {
	for _, b := range []string{"", "\x01", "\x01\x02"} {
		if v, n, e := octets.Read(b, pair); v != [2]int{} || n != 0 || e != api.ErrForm {
			t.Errorf("%q is read as %v, %d bytes (%d)", b, v, n, e)
		}
	}
}

// A fault of who reads is not taken for a text that ends too early.
func TestOtherPanicsAreNotHeldBack(t *testing.T) {
	defer func() {
		if recover() == nil {
			t.Error("it was held back")
		}
	}()
	octets.Read("text", func(r *octets.Reader) int { panic("a fault") })
}
