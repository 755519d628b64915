package vol

import (
	"slices"

	"bedrock/api"
	"bedrock/parity"
)

// atOnce is how many rows are read at once: so a call that ends at one of the first rows does not read all others.
const atOnce = 64

// Write writes b to the rows from at on.
func (v *Vol) Write(at int, stamp uint64, b []byte) error {
	if len(b) == 0 || stamp == 0 {
		return api.ErrArg
	}
	size := v.RowBytes()
	n := (len(b)-1)/size + 1
	if !v.has(at, n) {
		return api.ErrPlace
	}
	full := make([]byte, n*size)
	copy(full, b)
	var rows [][][]byte
	for row := range slices.Chunk(full, size) {
		all, err := v.spread(slices.Collect(slices.Chunk(row, api.SectorRoom)))
		if err != nil {
			return err
		}
		rows = append(rows, all)
	}
	return v.outcome(v.each(func(i int, d *api.Disk) error {
		out := make([]byte, 0, n*api.SectorSize)
		for k, row := range rows {
			out = append(out, place{i, at + k, written}.seal(stamp, row[i])...)
		}
		return d.Write(at, out)
	}))
}

// Read tells what n rows from at on have.
func (v *Vol) Read(at, n int, stamp uint64) ([]byte, error) {
	var out []byte
	err := v.walk(at, n, stamp, func(_ int, data, _ [][]byte) error {
		for _, b := range data {
			out = append(out, b...)
		}
		return nil
	})
	if err != nil {
		return nil, err
	}
	return out, nil
}

// Scrub writes anew what is not good of n rows from at on, and tells how many sectors that were.
func (v *Vol) Scrub(at, n int, stamp uint64) (int, error) {
	count := 0
	err := v.walk(at, n, stamp, func(row int, data, found [][]byte) error {
		k, err := v.renew(row, stamp, data, found)
		count += k
		return err
	})
	if err != nil {
		return 0, err
	}
	return count, nil
}

// renew writes those sectors of a row of which nothing was found.
func (v *Vol) renew(row int, stamp uint64, data, found [][]byte) (int, error) {
	if !slices.ContainsFunc(found, lost) {
		return 0, nil
	}
	all, err := v.spread(data)
	if err != nil {
		return 0, err
	}
	return v.fill(row, func(i int) []byte {
		if lost(found[i]) {
			return place{i, row, written}.seal(stamp, all[i])
		}
		return nil
	})
}

// fill writes a row's sectors as made tells them for each disk, but those that it tells nothing for, and tells how many it wrote.
func (v *Vol) fill(row int, made func(i int) []byte) (int, error) {
	done := make([]int, len(v.disks))
	errs := v.each(func(i int, d *api.Disk) error {
		s := made(i)
		if s == nil {
			return nil
		}
		err := d.Write(row, s)
		if err == nil {
			done[i] = 1
		}
		return err
	})
	if err := v.outcome(errs); err != nil {
		return 0, err
	}
	n := 0
	for _, k := range done {
		n += k
	}
	return n, nil
}

// walk goes through n rows from at on, and hands on of each its data, and the disks' pieces that are good for a Write with that stamp.
func (v *Vol) walk(at, n int, stamp uint64, do func(row int, data, found [][]byte) error) error {
	if n < 1 || stamp == 0 {
		return api.ErrArg
	}
	if !v.has(at, n) {
		return api.ErrPlace
	}
	for n > 0 {
		rows, err := v.pieces(at, min(n, atOnce), stamp)
		if err != nil {
			return err
		}
		for _, found := range rows {
			data, err := v.data(found)
			if err != nil {
				return spoilt(at)
			}
			if err := do(at, data, found); err != nil {
				return err
			}
			at, n = at+1, n-1
		}
	}
	return nil
}

// pieces are what the disks have of n rows from at on, row by row: nil, if a disk's sector is not good for a Write with that stamp.
func (v *Vol) pieces(at, n int, stamp uint64) ([][][]byte, error) {
	rows := make([][][]byte, n)
	for k := range rows {
		rows[k] = make([][]byte, len(v.disks))
	}
	errs := v.each(func(i int, d *api.Disk) error {
		l, err := sectors(d, at, n)
		for k, s := range l {
			if was, b := (place{i, at + k, written}).open(s); was == stamp {
				rows[k][i] = b
			}
		}
		return err
	})
	return rows, failed(errs)
}

// data are the pieces of data of a row, as far as those that were found tell them.
func (v *Vol) data(found [][]byte) ([][]byte, error) {
	if data := found[:v.shape.Data]; !slices.ContainsFunc(data, lost) {
		return data, nil
	}
	return parity.Mend(found, v.shape.Level)
}

// spread are the pieces of a row, one for each disk, of its data.
func (v *Vol) spread(data [][]byte) ([][]byte, error) {
	more, err := parity.Make(data, v.shape.Level)
	if err != nil {
		return nil, err
	}
	return append(slices.Clip(data), more...), nil
}

func lost(piece []byte) bool { return len(piece) == 0 }
