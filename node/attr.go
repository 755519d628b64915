package node

import (
	"math"

	"bedrock/api"
	"bedrock/number"
)

// widths is how many bytes each number of a node has.
var widths = [...]int{1, 1, 2, 4, 4, 4, 4, 8, 8, 6, 5}

// check tells what is wrong with attributes. Size and Pages are not looked at: they come from what is written.
func check(a api.Attr) error {
	for _, x := range []int{a.Mode, a.Uid, a.Gid, a.Project} {
		if x < 0 || x > math.MaxInt32 {
			return api.ErrArg
		}
	}
	switch {
	case a.Links < 0 || a.Links > math.MaxUint16:
		return api.ErrArg
	case a.Parent >= 1<<62 || a.Turn >= 1<<62:
		return api.ErrArg
	case a.Kind != api.File && a.Kind != api.Dir && a.Kind != api.Link:
		return api.ErrArg
	}
	return nil
}

// bytesOf is what the map has of a node.
func bytesOf(a api.Attr) []byte {
	fold := 0
	if a.Fold {
		fold = 1
	}
	var b []byte
	for i, x := range []int{int(a.Kind), fold, a.Links, a.Mode, a.Uid, a.Gid, a.Project, int(a.Parent), int(a.Turn), a.Size, a.Pages} {
		b = number.Append(b, uint64(x), widths[i])
	}
	return b
}

// attrOf is the node of which the map has these bytes. Others were not put there by a table.
func attrOf(b []byte) (api.Attr, error) {
	var l [len(widths)]int
	for i, width := range widths {
		if width > len(b) {
			return api.Attr{}, api.ErrSpoilt
		}
		l[i] = int(number.Of(b[:width]))
		b = b[width:]
	}
	if len(b) > 0 {
		return api.Attr{}, api.ErrSpoilt
	}
	return api.Attr{
		Kind: api.NodeKind(l[0]), Fold: l[1] == 1, Links: l[2], Mode: l[3], Uid: l[4], Gid: l[5], Project: l[6],
		Parent: uint64(l[7]), Turn: uint64(l[8]), Size: l[9], Pages: l[10],
	}, nil
}
