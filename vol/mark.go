package vol

import (
	"bytes"
	"slices"

	"bedrock/api"
)

// Mark writes all of b to each disk's sector of the row at.
func (v *Vol) Mark(at int, stamp uint64, b []byte) error {
	if err := v.markable(at, stamp, b); err != nil {
		return err
	}
	_, err := v.fill(at, func(i int) []byte { return place{i, at, marked}.seal(stamp, b) })
	return err
}

// Renew is a Mark for those disks alone that do not have it, and tells how many sectors that were. What a disk has already is not put at risk.
func (v *Vol) Renew(at int, stamp uint64, b []byte) (int, error) {
	if err := v.markable(at, stamp, b); err != nil {
		return 0, err
	}
	all, err := v.marks(at)
	if err != nil {
		return 0, err
	}
	return v.fill(at, func(i int) []byte {
		if all[i].Stamp == stamp && bytes.Equal(all[i].Bytes, b) {
			return nil
		}
		return place{i, at, marked}.seal(stamp, b)
	})
}

// markable is the error of a Mark that cannot be.
func (v *Vol) markable(at int, stamp uint64, b []byte) error {
	switch {
	case stamp == 0:
		return api.ErrArg
	case len(b) > api.SectorRoom:
		return api.ErrLong
	case !v.has(at, 1):
		return api.ErrPlace
	}
	return nil
}

// Marks tells what each disk has of the Marks of the row at.
func (v *Vol) Marks(at int) ([]api.Mark, error) {
	if !v.has(at, 1) {
		return nil, api.ErrPlace
	}
	all, err := v.marks(at)
	if err != nil {
		return nil, err
	}
	return slices.DeleteFunc(all, func(m api.Mark) bool { return m.Stamp == 0 }), nil
}

// Remark writes anew a Mark of the row at to the disks that do not have it, and tells how many sectors that were.
func (v *Vol) Remark(at int, stamp uint64) (int, error) {
	if stamp == 0 {
		return 0, api.ErrArg
	}
	if !v.has(at, 1) {
		return 0, api.ErrPlace
	}
	all, err := v.marks(at)
	if err != nil {
		return 0, err
	}
	k := slices.IndexFunc(all, func(m api.Mark) bool { return m.Stamp == stamp })
	if k < 0 {
		return 0, spoilt(at)
	}
	return v.fill(at, func(i int) []byte {
		if all[i].Stamp != stamp {
			return place{i, at, marked}.seal(stamp, all[k].Bytes)
		}
		return nil
	})
}

// marks are the Marks of the row at, one for each disk; its stamp is 0 where the disk's sector is good for none.
func (v *Vol) marks(at int) ([]api.Mark, error) {
	out := make([]api.Mark, len(v.disks))
	errs := v.each(func(i int, d *api.Disk) error {
		l, err := sectors(d, at, 1)
		for _, s := range l {
			stamp, b := place{i, at, marked}.open(s)
			out[i] = api.Mark{Disk: i, Stamp: stamp, Bytes: slices.Clone(b)}
		}
		return err
	})
	return out, failed(errs)
}
