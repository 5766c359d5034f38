package serializer

import "heartwood/api"

const (
	intSize = 6
	zero    = 1 << 47 // the code of 0
)

func appendInt(b []byte, n int) []byte {
	n += zero
	return append(b, byte(n>>40), byte(n>>32), byte(n>>24), byte(n>>16), byte(n>>8), byte(n))
}

// encode returns the code of a canonical memory.
func encode(m api.Mem) []byte {
	var b []byte
	for _, n := range m.Globals {
		b = appendInt(b, n)
	}
	b = appendInt(b, len(m.Nodes))
	for _, x := range m.Nodes {
		b = append(b, byte(x.Type))
		for _, n := range x.F {
			b = appendInt(b, n)
		}
	}
	return b
}

// source has the bytes of a code that are left.
type source struct {
	b     []byte
	ended bool // whether there were too few
}

func (s *source) take(n int) []byte {
	if len(s.b) < n {
		s.ended = true
		return make([]byte, n)
	}
	b := s.b[:n]
	s.b = s.b[n:]
	return b
}

func (s *source) int() int {
	n := 0
	for _, x := range s.take(intSize) {
		n = n<<8 | int(x)
	}
	return n - zero
}

// decode reads what may be the code of a memory, and reports whether it has the right length, and known types.
func decode(d api.Desc, b []byte) (api.Mem, bool) {
	s := &source{b: b}
	var m api.Mem
	for range d.Globals {
		m.Globals = append(m.Globals, s.int())
	}
	count := s.int()
	if count < 0 || count > api.MaxNodes {
		return api.Mem{}, false
	}
	for range count {
		x := api.Node{Type: int(s.take(1)[0])}
		if s.ended || x.Type >= len(d.Types) {
			return api.Mem{}, false
		}
		for range d.Types[x.Type].Fields {
			x.F = append(x.F, s.int())
		}
		m.Nodes = append(m.Nodes, x)
	}
	return m, !s.ended && len(s.b) == 0
}
