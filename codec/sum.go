package codec

// Bits are taken from the lowest on, so the remainder is kept turned round, and shifted right. That of
// a byte is that of its low four bits and that of its high four bits, added without carry: so two
// tables of 16 words do where one of 256 would be too long to stand here.
var (
	ofLow = [16]uint32{
		0x00000000, 0xF26B8303, 0xE13B70F7, 0x1350F3F4,
		0xC79A971F, 0x35F1141C, 0x26A1E7E8, 0xD4CA64EB,
		0x8AD958CF, 0x78B2DBCC, 0x6BE22838, 0x9989AB3B,
		0x4D43CFD0, 0xBF284CD3, 0xAC78BF27, 0x5E133C24,
	}
	ofHigh = [16]uint32{
		0x00000000, 0x105EC76F, 0x20BD8EDE, 0x30E349B1,
		0x417B1DBC, 0x5125DAD3, 0x61C69362, 0x7198540D,
		0x82F63B78, 0x92A8FC17, 0xA24BB5A6, 0xB21572C9,
		0xC38D26C4, 0xD3D3E1AB, 0xE330A81A, 0xF36E6F75,
	}
)

// Sum tells the CRC-32C of parts.
func Sum(parts ...[]byte) uint32 {
	rest := ^uint32(0)
	for _, p := range parts {
		for _, c := range p {
			x := byte(rest) ^ c
			rest = ofLow[x&0xF] ^ ofHigh[x>>4] ^ rest>>8
		}
	}
	return ^rest
}

func appendSum(b []byte, s uint32) []byte {
	return append(b, byte(s), byte(s>>8), byte(s>>16), byte(s>>24))
}

func readSum(b []byte) uint32 {
	return uint32(b[0]) | uint32(b[1])<<8 | uint32(b[2])<<16 | uint32(b[3])<<24
}
