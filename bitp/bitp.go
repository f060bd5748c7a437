// Package bitp lays numbers one behind the other in few bits: see chapter 1 of DOC.md.
package bitp

import "math/bits"

const (
	widest    = 64
	mostCount = 65535
)

// Width tells how many bits u has.
func Width(u uint64) int { return bits.Len64(u) }

// Pack lays the lowest n bits of each number one behind the other.
func Pack(n int, l ...uint64) []byte {
	n = held(n)
	b := make([]byte, size(n, len(l)))
	for i, u := range l {
		put(b, i*n, n, u)
	}
	return b
}

// Unpack reads what Pack laid, and nothing else.
func Unpack(b []byte, n, count int) ([]uint64, bool) {
	n = held(n)
	if count < 0 || count > mostCount || len(b) != size(n, count) || !spareIsZero(b, n*count) {
		return nil, false
	}
	l := make([]uint64, count)
	for i := range l {
		l[i] = get(b, i*n, n)
	}
	return l, true
}

// At reads the i-th number alone.
func At(b []byte, n, i int) (uint64, bool) {
	n = held(n)
	if n == 0 {
		return 0, i >= 0 && i < mostCount
	}
	// A quotient, since i*n may wrap round.
	if i < 0 || i >= len(b)*8/n {
		return 0, false
	}
	return get(b, i*n, n), true
}

func held(n int) int { return min(max(n, 0), widest) }

func size(n, count int) int { return (n*count + 7) / 8 }

func spareIsZero(b []byte, used int) bool {
	spare := len(b)*8 - used
	return spare == 0 || b[len(b)-1]&(0xff>>(8-spare)) == 0
}

// put goes byte by byte: of each it fills what room is left.
func put(b []byte, at, n int, u uint64) {
	for n > 0 {
		room := 8 - at%8
		take := min(room, n)
		part := byte(u>>(n-take)) & (0xff >> (8 - take))
		b[at/8] |= part << (room - take)
		at += take
		n -= take
	}
}

func get(b []byte, at, n int) uint64 {
	var u uint64
	for n > 0 {
		room := 8 - at%8
		take := min(room, n)
		part := b[at/8] >> (room - take) & (0xff >> (8 - take))
		u = u<<take | uint64(part)
		at += take
		n -= take
	}
	return u
}
