package kv

import (
	"iter"

	"tollgate/api"
	"tollgate/key"
	"tollgate/tree"
)

// A pair stands in the tree as a cell for each part of its value. A cell's key is the pair's space and its key's length, a byte each, the key, and the part's number, the higher byte first: with the length ahead no other pair's cells begin as this one's do. It makes 40 bytes at most, as many as the tree allows.
const (
	head = 2
	tail = 2
)

// share is how many bytes each part of a value has but the last one, which has fewer: so it can be told from the others.
const share = api.MaxCell

// count is how many parts a value of so many bytes has.
func count(size int) int { return size/share + 1 }

// need is how many free pages a change of so many parts asks for.
func need(parts int) int { return 64 + 6*parts }

// spaceStart is what the keys of a space's cells begin with.
func spaceStart(space int) string { return string([]byte{byte(space)}) }

// pairStart is what the keys of a pair's cells begin with.
func pairStart(space int, key string) string {
	return spaceStart(space) + string([]byte{byte(len(key))}) + key
}

// cellKey is what the tree calls a part of a pair.
func cellKey(space int, key string, part int) string {
	return pairStart(space, key) + string([]byte{byte(part >> 8), byte(part)})
}

// cut tells a value's parts, one by one.
func cut(value string, tell func(part string)) {
	for len(value) >= share {
		tell(value[:share])
		value = value[share:]
	}
	tell(value)
}

// cell is a part of a pair.
type cell struct {
	key   string // the pair's
	part  int
	value string
}

// read is what a cell of the tree says, if it is one of a KV.
func read(c tree.Cell) (cell, bool) {
	end := len(c.Key) - tail
	if end < head || int(c.Key[head-1]) != end-head {
		return cell{}, false
	}
	part := int(c.Key[end])<<8 | int(c.Key[end+1])
	return cell{c.Key[head:end], part, c.Value}, true
}

// cells goes over the cells whose keys begin so, in the tree's order; it ends with the first one that can't be read, and tells why.
func (k *KV) cells(start string) iter.Seq2[cell, api.Errno] {
	return func(yield func(cell, api.Errno) bool) {
		l, e := k.tree.Range(start, key.After(start))
		if e != api.OK {
			yield(cell{}, e)
			return
		}
		for _, x := range l {
			c, ok := read(x)
			if !ok {
				yield(cell{}, api.ErrForm)
				return
			}
			if !yield(c, api.OK) {
				return
			}
		}
	}
}

// pairs are the pairs whose cells' keys begin so: the parts of their values, by their keys.
func (k *KV) pairs(start string) (map[string][]string, api.Errno) {
	all := map[string][]string{}
	for c, e := range k.cells(start) {
		if e != api.OK {
			return nil, e
		}
		if c.part != len(all[c.key]) {
			return nil, api.ErrForm
		}
		all[c.key] = append(all[c.key], c.value)
	}
	for _, parts := range all {
		if !whole(parts) {
			return nil, api.ErrForm
		}
	}
	return all, api.OK
}

// whole says whether these are all parts of one value.
func whole(parts []string) bool {
	last := len(parts) - 1
	for i, p := range parts {
		if (len(p) < share) != (i == last) {
			return false
		}
	}
	return true
}

// change makes the parts of a pair's value others, if there is room.
func (k *KV) change(space int, key string, was, now []string) api.Errno {
	if k.pager.Free() < need(len(was)+len(now)) {
		if k.disk.Dead() { // the tree, asked ahead of the room, would say so, though it may have no page to read
			return api.ErrDead
		}
		return api.ErrFull
	}
	set := func(part int, value []string) api.Errno {
		name := cellKey(space, key, part)
		if part < len(value) {
			return k.tree.Put(name, value[part])
		}
		_, e := k.tree.Del(name)
		return e
	}
	for i := range max(len(was), len(now)) {
		if e := set(i, now); e != api.OK {
			for ; i > 0; i-- { // what was done is undone: a call that is refused changes nothing
				set(i-1, was)
			}
			return e
		}
	}
	return api.OK
}
