package store

import (
	"slices"

	"roster/api"
	"roster/entry"
	"roster/index"
	"roster/name"
	"roster/schema"
)

// kept is the records, and the index that hears what becomes of their entries. The lists of a record that is kept are never written into, a change lays others in their place: so stores may have them in common.
type kept struct {
	*index.Index
	schema  *schema.Schema
	records map[uint64]api.Record
}

// change makes a record another one, or tells why a layer below does not let it be, and the place that this layer told.
type change func(r *api.Record) (api.Errno, int)

// toName is the change to another name.
func (k kept) toName(n api.Name) change {
	return func(r *api.Record) (api.Errno, int) {
		if _, wrong := name.Key(k.schema, n); wrong != api.OK {
			return wrong, 0
		}
		r.Name = nameTwin(n)
		return api.OK, 0
	}
}

// toEntry is the change to another entry.
func (k kept) toEntry(e api.Entry) change {
	return func(r *api.Record) (wrong api.Errno, at int) {
		if wrong, at = entry.Check(k.schema, e); wrong != api.OK {
			return wrong, at
		}
		r.Entry, wrong, at = entry.Tidy(k.schema, e)
		return wrong, at
	}
}

// byMods is the change of the entry that is there.
func (k kept) byMods(mods []api.Mod) change {
	return func(r *api.Record) (wrong api.Errno, at int) {
		r.Entry, wrong, at = entry.Apply(k.schema, r.Entry, mods)
		return wrong, at
	}
}

// apply keeps what becomes of the record by all the changes; nothing, if one of them can't be.
func (k kept) apply(r api.Record, changes ...change) (api.Errno, int) {
	for _, do := range changes {
		if wrong, at := do(&r); wrong != api.OK {
			return wrong, at
		}
	}
	k.keep(r)
	return api.OK, 0
}

// keep lays the record where the one of its number stands. The index need not hear of one whose entry stays as it is: of names it knows nothing.
func (k kept) keep(r api.Record) {
	if !entry.Same(k.records[r.Id].Entry, r.Entry) {
		k.Put(r.Id, r.Entry)
	}
	k.records[r.Id] = r
}

func (k kept) remove(id uint64) {
	k.Drop(id)
	delete(k.records, id)
}

func nameTwin(n api.Name) api.Name {
	parts := slices.Clone(n.Rdns)
	for at := range parts {
		parts[at].Avas = slices.Clone(parts[at].Avas)
	}
	return api.Name{Rdns: parts}
}
