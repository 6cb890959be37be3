package node

import (
	"bytes"

	"deedbox/api"
	"deedbox/octet"
)

// mostRead is below the greatest int, so that no epoch that is read wraps round below 0.
const mostRead = 1 << 62

func kidSize(k api.Kid) int { return kidHead + len(k.Key) }

func kidKey(k api.Kid) []byte { return k.Key }

func checkKid(k api.Kid) api.Code {
	if len(k.Key) > api.MaxKey {
		return api.ErrSize
	}
	if !within(k.Page, api.MaxBlocks-1) || !within(k.Epoch, api.MaxNum) {
		return api.ErrRange
	}
	return api.OK
}

func within(n, most int) bool { return n >= 0 && n <= most }

func kidBytes(k api.Kid) []byte {
	return octet.Join(octet.Put(uint64(len(k.Key)), lengthSize), octet.Put(uint64(k.Page), pageSize), octet.Put(uint64(k.Epoch), epochSize), k.Key)
}

func readKid(r *octet.Reader) api.Kid {
	key := int(r.Number(lengthSize))
	return api.Kid{
		Page:  int(r.Number(pageSize)),
		Epoch: int(min(r.Number(epochSize), mostRead)),
		Key:   r.Bytes(key),
	}
}

func copyKid(k api.Kid) api.Kid {
	k.Key = bytes.Clone(k.Key)
	return k
}
