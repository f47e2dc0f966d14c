package catalog

import (
	"weighlock/api"
	"weighlock/dedup"
	"weighlock/topic"
)

// The kinds of entries.
const (
	kindMake  = iota + 1 // a topic
	kindDrop             // a topic
	kindMeta             // of a partition
	kindCount            // of gens
)

// entry is an entry that is to turn a catalog: it embeds that, and the reader of its payload.
type entry struct {
	*Catalog
	reader
}

// applied tells whether the entry may be; then the catalog is turned by it.
func (x *entry) applied(kind int) bool {
	switch kind {
	case kindMake:
		return x.makeTopic()
	case kindDrop:
		return x.dropTopic()
	case kindMeta:
		return x.setMeta()
	case kindCount:
		return x.setCount()
	}
	return false
}

// makeTopic makes a topic, whose partitions have no records and no producers.
func (x *entry) makeTopic() bool {
	slot, gen, s := x.number(), x.number(), x.spec()
	if !x.whole() || !within(slot, 0, api.MaxTopics-1) || x.topics[slot].Name != free || !isGen(gen) || x.has(s.Name) {
		return false
	}
	x.topics[slot] = s
	for _, p := range topic.Places(s) {
		x.put(p, Meta{Gen: gen, Table: dedup.New().Encode()})
	}
	return true
}

// dropTopic lets a topic go. The count stays: no later log has one of its gens.
func (x *entry) dropTopic() bool {
	name := x.text()
	if !x.whole() || !x.has(name) {
		return false
	}
	slot := x.slot(name)
	for _, p := range topic.Places(x.topics[slot]) {
		delete(x.metas, p)
	}
	x.topics[slot] = api.Spec{}
	return true
}

// setMeta sets a partition's meta.
func (x *entry) setMeta() bool {
	p := api.Place{Topic: x.text(), Part: x.number()}
	m := Meta{Gen: x.number(), Seq: x.number(), Start: x.number(), Next: x.number(), Table: x.text()}
	if !x.whole() || !x.hasPlace(p) || !may(m) {
		return false
	}
	x.put(p, m)
	return true
}

// setCount sets the count.
func (x *entry) setCount() bool {
	n := x.number()
	if !x.whole() || !within(n, x.count, mostGen) {
		return false
	}
	x.count = n
	return true
}
