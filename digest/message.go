package digest

import (
	"math/bits"
	"strings"

	"sortes/api"
)

// blockSize is the number of bytes of a block.
const blockSize = 64

// message is the beginning of a message: the state after its whole blocks, the bytes behind them, which are less than a block, and the number of all its bytes.
type message struct {
	state [8]uint32
	rest  string
	size  int
}

// begin returns the beginning of each message, which has no bytes.
func begin() message {
	return message{state: squareRoots}
}

// add returns the message with s behind it.
func (m message) add(s string) message {
	m.size += len(s)
	s = m.rest + s
	for len(s) >= blockSize {
		m.state = next(m.state, s[:blockSize])
		s = s[blockSize:]
	}
	m.rest = s
	return m
}

// sum returns the hash of the message, if nothing comes behind it.
func (m message) sum() api.Hash {
	m = m.add(padding(m.size))
	var h api.Hash
	for i := range h {
		h[i] = byte(m.state[i/4] >> (24 - i%4*8))
	}
	return h
}

// padding returns what fills the last block behind a message of so many bytes.
func padding(size int) string {
	const lengthSize = 8
	zeros := (2*blockSize - 1 - lengthSize - size%blockSize) % blockSize
	text := []byte("\x80" + strings.Repeat("\x00", zeros))
	length := uint64(size) * 8
	for shift := 56; shift >= 0; shift -= 8 {
		text = append(text, byte(length>>shift))
	}
	return string(text)
}

// next returns the state after a block.
func next(state [8]uint32, block string) [8]uint32 {
	w := schedule(block)
	a, b, c, d := state[0], state[1], state[2], state[3]
	e, f, g, h := state[4], state[5], state[6], state[7]
	for i := range w {
		t := h + (rot(e, 6) ^ rot(e, 11) ^ rot(e, 25)) + (e&f ^ ^e&g) + cubeRoots[i] + w[i]
		u := (rot(a, 2) ^ rot(a, 13) ^ rot(a, 22)) + (a&b ^ a&c ^ b&c)
		h, g, f, e = g, f, e, d+t
		d, c, b, a = c, b, a, t+u
	}
	for i, word := range [8]uint32{a, b, c, d, e, f, g, h} {
		state[i] += word
	}
	return state
}

// schedule returns the words of the rounds of a block: first its own 16, then those that follow from them.
func schedule(block string) [64]uint32 {
	var w [64]uint32
	for i := range blockSize {
		w[i/4] = w[i/4]<<8 | uint32(block[i])
	}
	for i := 16; i < len(w); i++ {
		x, y := w[i-15], w[i-2]
		s0 := rot(x, 7) ^ rot(x, 18) ^ x>>3
		s1 := rot(y, 17) ^ rot(y, 19) ^ y>>10
		w[i] = w[i-16] + s0 + w[i-7] + s1
	}
	return w
}

// rot returns x rotated to the right by n bits.
func rot(x uint32, n int) uint32 {
	return bits.RotateLeft32(x, -n)
}
