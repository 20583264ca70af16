package utf

func isSurrogate(p int) bool {
	return p >= firstHigh && p <= lastLow
}

func isPoint(p int) bool {
	return p >= 0 && p <= greatest[3] && !isSurrogate(p)
}

// length tells how many bytes the UTF-8 of a code point has.
func length(p int) int {
	n := 1
	for n < len(greatest) && p > greatest[n-1] {
		n++
	}
	return n
}

// least is the least number whose UTF-8 has n bytes: what is below it has a shorter form.
func least(n int) int {
	if n == 1 {
		return 0
	}
	return greatest[n-2] + 1
}

// follows tells whether a byte stands behind another one in a code point.
func follows(c byte) bool {
	return c >= 0x80 && c <= 0xbf
}

// follower is the byte of the lowest six bits.
func follower(p int) byte {
	return byte(0x80 | p&0x3f)
}

// joined copies both into new memory: an append to out could write behind its end.
func joined(out []byte, more ...byte) []byte {
	all := make([]byte, 0, len(out)+len(more))
	all = append(all, out...)
	return append(all, more...)
}

// lead reads a first byte: how many bytes it announces (0: it is no first byte), and the bits that it gives.
func lead(c byte) (int, int) {
	switch {
	case c < 0x80:
		return 1, int(c)
	case c < 0xc0:
		return 0, 0
	case c < 0xe0:
		return 2, int(c & 0x1f)
	case c < 0xf0:
		return 3, int(c & 0x0f)
	case c < 0xf8:
		return 4, int(c & 0x07)
	}
	return 0, 0
}

// begun reads the first code point of b, which is not empty: how many bytes of b begin one, and whether they are a whole one.
func begun(b []byte) (int, bool) {
	n, bits := lead(b[0])
	if n == 0 || !reaches(bits, n, n-1) {
		return 0, false
	}
	for k := 1; k < n; k++ {
		if k == len(b) || !follows(b[k]) {
			return k, false
		}
		bits = bits<<6 | int(b[k]&0x3f)
		if !reaches(bits, n, n-1-k) {
			return k, false
		}
	}
	return n, true
}

// reaches tells whether some code point of n bytes begins with these bits, while some of its bytes are missing.
// It is asked of every beginning, since a form that is too long, too great or a surrogate shows ahead of its last byte.
func reaches(bits int, n int, missing int) bool {
	low := max(bits<<(6*missing), least(n))
	high := min((bits+1)<<(6*missing)-1, greatest[n-1])
	return low <= high && !(isSurrogate(low) && isSurrogate(high))
}
