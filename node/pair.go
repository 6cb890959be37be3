package node

import (
	"bytes"

	"deedbox/api"
	"deedbox/octet"
)

func pairSize(p api.Pair) int { return pairHead + len(p.Key) + len(p.Value) }

func pairKey(p api.Pair) []byte { return p.Key }

func checkPair(p api.Pair) api.Code {
	if len(p.Key) > api.MaxKey || len(p.Value) > api.MaxValue {
		return api.ErrSize
	}
	return api.OK
}

func pairBytes(p api.Pair) []byte {
	return octet.Join(octet.Put(uint64(len(p.Key)), lengthSize), octet.Put(uint64(len(p.Value)), lengthSize), p.Key, p.Value)
}

func readPair(r *octet.Reader) api.Pair {
	key, value := int(r.Number(lengthSize)), int(r.Number(lengthSize))
	return api.Pair{Key: r.Bytes(key), Value: r.Bytes(value)}
}

func copyPair(p api.Pair) api.Pair {
	return api.Pair{Key: bytes.Clone(p.Key), Value: bytes.Clone(p.Value)}
}
