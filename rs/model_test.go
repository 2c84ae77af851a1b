package rs_test

import "glacier/rs"

// modelMul multiplies as polynomials over the field of two, and divides by x^8 + x^4 + x^3 + x^2 + 1 with a rest.
func modelMul(a, b byte) byte {
	product := 0
	for i := range 8 {
		if b>>i&1 == 1 {
			product ^= int(a) << i
		}
	}
	for top := 14; top >= 8; top-- {
		if product>>top&1 == 1 {
			product ^= 0x11D << (top - 8)
		}
	}
	return byte(product)
}

// modelOver tells 1 divided by each element but 0.
func modelOver() [256]byte {
	var over [256]byte
	for a := 1; a < 256; a++ {
		for x := 1; x < 256; x++ {
			if modelMul(byte(a), byte(x)) == 1 {
				over[a] = byte(x)
			}
		}
	}
	return over
}

var over = modelOver()

// modelSplit goes by the chapter's words: byte i of data is byte i modulo the length of the shard i by the length.
func modelSplit(k int, data []byte) [][]byte {
	length := 1
	for k*length < len(data) {
		length++
	}
	shards := make([][]byte, k)
	for i := range shards {
		shards[i] = make([]byte, length)
	}
	for i, x := range data {
		shards[i/length][i%length] = x
	}
	return shards
}

// modelParity goes by the chapter's words: row j, column n of Cauchy is 1 divided by the sum of k + j and n.
func modelParity(k, m int, shards [][]byte) [][]byte {
	parity := make([][]byte, m)
	for j := range parity {
		parity[j] = make([]byte, len(shards[0]))
		for n, s := range shards {
			by := over[byte(k+j)^byte(n)]
			for i, x := range s {
				parity[j][i] ^= modelMul(by, x)
			}
		}
	}
	return parity
}

func modelEncode(k, m int, data []byte) [][]byte {
	shards := modelSplit(k, data)
	return append(shards, modelParity(k, m, shards)...)
}

// modelMended tells whether all are what Repair may tell of shards, of which k or more are there: those that are
// there are as they are; and the first k that are there, with all that are missing, are shards of the same bytes,
// those that all's first k hold. So P1105 leaves one answer.
func modelMended(c *rs.Code, shards, all [][]byte) bool {
	k, m := c.Numbers()
	if len(all) != k+m {
		return false
	}
	made := append(copied(all[:k]), modelParity(k, m, all[:k])...)
	there := 0
	for n, s := range shards {
		isThere := len(s) > 0
		if isThere && string(all[n]) != string(s) {
			return false
		}
		if (!isThere || there < k) && string(all[n]) != string(made[n]) {
			return false
		}
		if isThere {
			there++
		}
	}
	return true
}
