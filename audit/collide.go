package audit

import (
	"bytes"

	"belfry/api"
	"belfry/sha"
)

// Collide tells two texts with one digest, of two logs that are not the same and are accepted under one head.
func Collide(a, b []byte, head [32]byte) ([]byte, []byte, bool) {
	return collide(a, b, head, sha.Sum)
}

func collide(a, b []byte, head digest, sum hash) ([]byte, []byte, bool) {
	x, e, _ := verify(a, head, sum)
	if e != api.OK {
		return nil, nil, false
	}
	y, e, _ := verify(b, head, sum)
	if e != api.OK {
		return nil, nil, false
	}
	return parted(texts(x.parts, sum), texts(y.parts, sum))
}

// texts tells the texts whose digests lead to a log's head, in order: each has the digest of the one ahead of it, and the last one has as many as there are entries.
func texts(l []part, sum hash) [][]byte {
	var link digest
	var out [][]byte
	for _, p := range l {
		text := linkText(link, p.bytes)
		link = sum(text)
		out = append(out, text)
	}
	return append(out, headText(int64(len(l)), link))
}

// parted goes back from the last texts of two logs, which have one digest, to the first two that are not the same: all behind them are, and so have the same digest of them. None are, if the logs are the same.
func parted(a, b [][]byte) ([]byte, []byte, bool) {
	for len(a) > 0 && len(b) > 0 {
		x, y := a[len(a)-1], b[len(b)-1]
		if !bytes.Equal(x, y) {
			return x, y, true
		}
		a, b = a[:len(a)-1], b[:len(b)-1]
	}
	return nil, nil, false
}
