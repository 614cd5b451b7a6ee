package vint

// halfSums are the registers that the sixteen half bytes leave behind, by the reflected polynomial 0x82F63B78.
var halfSums = [16]uint32{
	0x00000000, 0x105ec76f, 0x20bd8ede, 0x30e349b1,
	0x417b1dbc, 0x5125dad3, 0x61c69362, 0x7198540d,
	0x82f63b78, 0x92a8fc17, 0xa24bb5a6, 0xb21572c9,
	0xc38d26c4, 0xd3d3e1ab, 0xe330a81a, 0xf36e6f75,
}

// Sum answers the CRC-32C of b.
func Sum(b []byte) uint32 {
	return On(0, b)
}

// On answers the sum of the bytes whose sum is given, and those of b behind them.
func On(sum uint32, b []byte) uint32 {
	// A sum is its register with all bits turned: turned back, the register goes on where it stopped.
	register := ^sum
	for _, c := range b {
		register ^= uint32(c)
		register = halfSums[register&15] ^ register>>4
		register = halfSums[register&15] ^ register>>4
	}
	return ^register
}
