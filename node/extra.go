package node

import (
	"errors"

	"bedrock/api"
)

// Extra tells a further attribute's value.
func (t *Table) Extra(n uint64, name string) ([]byte, error) {
	if err := t.checkName(n, name); err != nil {
		return nil, err
	}
	return t.Get(nameKey(n, name))
}

// SetExtra gives a further attribute a value.
func (t *Table) SetExtra(n uint64, name string, val []byte) error {
	if err := t.checkName(n, name); err != nil {
		return err
	}
	if len(val) > api.MaxAttrVal {
		return api.ErrLong
	}
	_, err := t.Get(nameKey(n, name))
	if errors.Is(err, api.ErrMissing) {
		err = t.spareName(n)
	}
	if err != nil {
		return err
	}
	return t.Put(nameKey(n, name), val)
}

// spareName tells whether a node may have one more name.
func (t *Table) spareName(n uint64) error {
	l, err := t.names(n)
	if err == nil && len(l) >= api.MaxAttrs {
		err = api.ErrMany
	}
	return err
}

// DelExtra takes a further attribute away.
func (t *Table) DelExtra(n uint64, name string) error {
	if err := t.checkName(n, name); err != nil {
		return err
	}
	return t.Del(nameKey(n, name))
}

// Extras tells the names of a node's further attributes.
func (t *Table) Extras(n uint64) ([]string, error) {
	if _, err := t.Attr(n); err != nil {
		return nil, err
	}
	return t.names(n)
}

// names is the names of a node's further attributes.
func (t *Table) names(n uint64) ([]string, error) {
	var l []string
	for p, err := range t.Scan(nameKey(n, ""), behind(n)) {
		if err != nil {
			return nil, err
		}
		if _, more, ours := apart(p.Key); ours && more.Kind == api.Text {
			l = append(l, more.Text)
		}
	}
	return l, nil
}

// checkName tells whether there is such a node, and then what is wrong with a name.
func (t *Table) checkName(n uint64, name string) error {
	if _, err := t.Attr(n); err != nil {
		return err
	}
	if len(name) == 0 || len(name) > api.MaxPart {
		return api.ErrName
	}
	return nil
}
