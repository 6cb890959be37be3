package node

import (
	"bytes"
	"sort"

	"deedbox/api"
	"deedbox/octet"
)

func total[T any](things []T, size func(T) int) int {
	n := 0
	for _, x := range things {
		n += size(x)
	}
	return n
}

// parting is the first place where the greater of both parts is least; 0, if there are not two things to part.
func parting[T any](things []T, size func(T) int) int {
	at, least := 0, 0
	ahead, behind := 0, total(things, size)
	for i := 1; i < len(things); i++ {
		n := size(things[i-1])
		ahead, behind = ahead+n, behind-n
		if greater := max(ahead, behind); at == 0 || greater < least {
			at, least = i, greater
		}
	}
	return at
}

// first is the place of the first thing of which something holds, where it holds of all behind it, too; behind all, if it holds of none.
func first[T any](things []T, holds func(T) bool) int {
	return sort.Search(len(things), func(i int) bool { return holds(things[i]) })
}

func firstCode[T any](things []T, check func(T) api.Code) api.Code {
	for _, x := range things {
		if code := check(x); code != api.OK {
			return code
		}
	}
	return api.OK
}

func rise[T any](things []T, key func(T) []byte) bool {
	for i := 1; i < len(things); i++ {
		if bytes.Compare(key(things[i-1]), key(things[i])) >= 0 {
			return false
		}
	}
	return true
}

func joined[T any](things []T, put func(T) []byte) []byte {
	var parts [][]byte
	for _, x := range things {
		parts = append(parts, put(x))
	}
	return octet.Join(parts...)
}

// several reads so many things. It ends at the first one that is not there: a page may say that there are many more than it has room for.
func several[T any](r *octet.Reader, count uint64, one func(*octet.Reader) T) []T {
	var l []T
	for range count {
		if r.Code() != api.OK {
			break
		}
		l = append(l, one(r))
	}
	return l
}

func copied[T any](things []T, one func(T) T) []T {
	var l []T
	for _, x := range things {
		l = append(l, one(x))
	}
	return l
}
