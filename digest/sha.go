package digest

import "math/bits"

const (
	block   = 64   // bytes that change the state together
	rounds  = 64   // rounds of one change, each with a word of its own
	given   = 16   // words of a round that are the block's own; the others are made of those ahead
	tail    = 8    // bytes that tell how many bits there were
	endMark = 0x80 // the byte behind all that was written
)

// cubes: k0 to k63, the first 32 bits behind the point of the cube roots of the primes.
var cubes = [rounds]uint32{
	0x428a2f98, 0x71374491, 0xb5c0fbcf, 0xe9b5dba5, 0x3956c25b, 0x59f111f1, 0x923f82a4, 0xab1c5ed5,
	0xd807aa98, 0x12835b01, 0x243185be, 0x550c7dc3, 0x72be5d74, 0x80deb1fe, 0x9bdc06a7, 0xc19bf174,
	0xe49b69c1, 0xefbe4786, 0x0fc19dc6, 0x240ca1cc, 0x2de92c6f, 0x4a7484aa, 0x5cb0a9dc, 0x76f988da,
	0x983e5152, 0xa831c66d, 0xb00327c8, 0xbf597fc7, 0xc6e00bf3, 0xd5a79147, 0x06ca6351, 0x14292967,
	0x27b70a85, 0x2e1b2138, 0x4d2c6dfc, 0x53380d13, 0x650a7354, 0x766a0abb, 0x81c2c92e, 0x92722c85,
	0xa2bfe8a1, 0xa81a664b, 0xc24b8b70, 0xc76c51a3, 0xd192e819, 0xd6990624, 0xf40e3585, 0x106aa070,
	0x19a4c116, 0x1e376c08, 0x2748774c, 0x34b0bcb5, 0x391c0cb3, 0x4ed8aa4a, 0x5b9cca4f, 0x682e6ff3,
	0x748f82ee, 0x78a5636f, 0x84c87814, 0x8cc70208, 0x90befffa, 0xa4506ceb, 0xbef9a3f7, 0xc67178f2,
}

// first tells the state ahead of all blocks.
func first() [8]uint32 {
	return [8]uint32{0x6a09e667, 0xbb67ae85, 0x3c6ef372, 0xa54ff53a, 0x510e527f, 0x9b05688c, 0x1f83d9ab, 0x5be0cd19}
}

// changed tells the state behind one block more. Its words have the chapter's letters.
func changed(state [8]uint32, piece []byte) [8]uint32 {
	w := words(piece)
	a, b, c, d := state[0], state[1], state[2], state[3]
	e, f, g, h := state[4], state[5], state[6], state[7]
	for i := range rounds {
		t := h + bigS1(e) + (e&f ^ ^e&g) + cubes[i] + w[i]
		u := bigS0(a) + (a&b ^ a&c ^ b&c)
		a, b, c, d, e, f, g, h = t+u, a, b, c, d+t, e, f, g
	}
	return [8]uint32{
		state[0] + a, state[1] + b, state[2] + c, state[3] + d,
		state[4] + e, state[5] + f, state[6] + g, state[7] + h,
	}
}

// words tells the words of the rounds: those of a block, and those that are made of them.
func words(piece []byte) [rounds]uint32 {
	var w [rounds]uint32
	for i := range given {
		w[i] = word(piece[4*i : 4*i+4 : 4*i+4])
	}
	for i := given; i < rounds; i++ {
		w[i] = smallS1(w[i-2]) + w[i-7] + smallS0(w[i-15]) + w[i-16]
	}
	return w
}

// word tells the word that is laid in four bytes, the highest first.
func word(b []byte) uint32 {
	return uint32(b[0])<<24 | uint32(b[1])<<16 | uint32(b[2])<<8 | uint32(b[3])
}

// turn tells a word with its bits turned right.
func turn(x uint32, n int) uint32 { return bits.RotateLeft32(x, -n) }

func smallS0(x uint32) uint32 { return turn(x, 7) ^ turn(x, 18) ^ x>>3 }

func smallS1(x uint32) uint32 { return turn(x, 17) ^ turn(x, 19) ^ x>>10 }

func bigS0(x uint32) uint32 { return turn(x, 2) ^ turn(x, 13) ^ turn(x, 22) }

func bigS1(x uint32) uint32 { return turn(x, 6) ^ turn(x, 11) ^ turn(x, 25) }

// ending tells what lengthens so many bytes to whole blocks.
func ending(count uint64) []byte {
	out := append(make([]byte, 0, 2*block), endMark)
	for (count+uint64(len(out))+tail)%block != 0 {
		out = append(out, 0)
	}
	for i := tail - 1; i >= 0; i-- {
		out = append(out, byte(8*count>>(8*i)))
	}
	return out
}

// laid tells a state's words one behind the other, each with its highest byte first.
func laid(state [8]uint32) [size]byte {
	var out [size]byte
	for i, x := range state {
		out[4*i], out[4*i+1], out[4*i+2], out[4*i+3] = byte(x>>24), byte(x>>16), byte(x>>8), byte(x)
	}
	return out
}
