package impl

import "bytes"

const (
	CoGood    = 0
	CoForm    = 1
	CoNone    = 2
	CoType    = 3
	CoDup     = 4
	CoUnique  = 5
	CoMissing = 6
	CoLarge   = 7
	CoSpace   = 8
	CoDown    = 9
)

const MaxNum = 1000000

const (
	groupSize = 128 // what seven bits can tell apart; added to a group, it says that another one follows
	maxGroups = 3   // MaxNum needs no more
	sumBytes  = 4
	crcTurn   = 2197175160
)

func PutU(b []byte, n int) []byte {
	return putNumbers(b, n)
}

func GetU(b []byte, at int) (int, int, bool) {
	if at < 0 {
		return 0, 0, false
	}
	n, weight := 0, 1
	for i := at; i < len(b) && i-at < maxGroups; i++ {
		group := int(b[i])
		n += group % groupSize * weight
		weight *= groupSize
		if group >= groupSize {
			continue
		}
		needless := group == 0 && i > at
		if needless || n > MaxNum {
			return 0, 0, false
		}
		return n, i + 1, true
	}
	return 0, 0, false
}

func PutText(b []byte, s string) []byte {
	return putBytes(putNumbers(b, len(s)), []byte(s)...)
}

func GetText(b []byte, at int) (string, int, bool) {
	n, next, ok := GetU(b, at)
	if !ok || n > len(b)-next {
		return "", 0, false
	}
	return string(b[next : next+n]), next + n, true
}

func Crc(b []byte) int {
	sum := ^uint32(0)
	for _, x := range b {
		sum = crcStep(sum ^ uint32(x))
	}
	return int(^sum)
}

func crcStep(sum uint32) uint32 {
	for range 8 {
		odd := sum&1 == 1
		sum >>= 1
		if odd {
			sum ^= crcTurn
		}
	}
	return sum
}

func PutSum(b []byte) []byte {
	sum := Crc(b)
	return putBytes(b, byte(sum>>24), byte(sum>>16), byte(sum>>8), byte(sum))
}

func GetSum(b []byte) ([]byte, bool) {
	cut := len(b) - sumBytes
	if cut < 0 || !bytes.Equal(PutSum(b[:cut]), b) {
		return []byte{}, false
	}
	return putBytes(b[:cut]), true
}

// putNumbers takes any count of numbers, since most of what is put has several, one behind the other.
func putNumbers(b []byte, nums ...int) []byte {
	var groups []byte
	for _, n := range nums {
		rest := min(max(n, 0), MaxNum)
		for rest >= groupSize {
			groups = append(groups, byte(rest%groupSize+groupSize))
			rest /= groupSize
		}
		groups = append(groups, byte(rest))
	}
	return putBytes(b, groups...)
}

// putBytes copies b first, for an append to b itself may write into the spare room behind it.
func putBytes(b []byte, more ...byte) []byte {
	out := make([]byte, 0, len(b)+len(more))
	out = append(out, b...)
	return append(out, more...)
}
