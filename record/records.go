package record

import "cooperage/api"

// bases are databases of a kind.
func bases(kind int) shape[api.Base] {
	gen := at("gen", func(b *api.Base) *int { return &b.Gen }, numbers())
	switch kind {
	case api.BaseBoxes:
		return objects(gen, at("boxes", func(b *api.Base) *[]api.Box { return &b.Boxes }, lists(boxes())))
	case api.BaseImages:
		return objects(gen, at("images", func(b *api.Base) *[]api.Image { return &b.Images }, lists(images())))
	}
	return objects(gen, at("layers", func(b *api.Base) *[]api.Layer { return &b.Layers }, lists(layers())))
}

func boxes() shape[api.Box] {
	return objects(
		at("id", func(b *api.Box) *string { return &b.Id }, texts()),
		at("names", func(b *api.Box) *[]string { return &b.Names }, lists(texts())),
		at("image", func(b *api.Box) *string { return &b.Image }, texts()),
		at("layer", func(b *api.Box) *string { return &b.Layer }, texts()),
		at("meta", func(b *api.Box) *string { return &b.Meta }, hexes()),
		at("items", func(b *api.Box) *[]api.Item { return &b.Items }, lists(items())),
	)
}

func images() shape[api.Image] {
	return objects(
		at("id", func(i *api.Image) *string { return &i.Id }, texts()),
		at("names", func(i *api.Image) *[]string { return &i.Names }, lists(texts())),
		at("top", func(i *api.Image) *string { return &i.Top }, texts()),
		at("meta", func(i *api.Image) *string { return &i.Meta }, hexes()),
		at("items", func(i *api.Image) *[]api.Item { return &i.Items }, lists(items())),
	)
}

func items() shape[api.Item] {
	return objects(
		at("key", func(i *api.Item) *string { return &i.Key }, texts()),
		at("digest", func(i *api.Item) *string { return &i.Digest }, texts()),
		at("data", func(i *api.Item) *string { return &i.Data }, hexes()),
	)
}

func layers() shape[api.Layer] {
	return objects(
		at("id", func(l *api.Layer) *string { return &l.Id }, texts()),
		at("parent", func(l *api.Layer) *string { return &l.Parent }, texts()),
		at("names", func(l *api.Layer) *[]string { return &l.Names }, lists(texts())),
		at("diff", func(l *api.Layer) *string { return &l.Diff }, texts()),
		at("size", func(l *api.Layer) *int { return &l.Size }, numbers()),
		at("blob", func(l *api.Layer) *int { return &l.Blob }, numbers()),
		at("done", func(l *api.Layer) *bool { return &l.Done }, truths()),
	)
}

func claims() shape[api.Claim] {
	return objects(
		at("pid", func(c *api.Claim) *int { return &c.Pid }, numbers()),
		at("birth", func(c *api.Claim) *int { return &c.Birth }, numbers()),
		at("stamp", func(c *api.Claim) *int { return &c.Stamp }, numbers()),
	)
}

func moves() shape[[]api.Move] {
	return boxed("moves", lists(objects(
		at("from", func(m *api.Move) *string { return &m.From }, texts()),
		at("to", func(m *api.Move) *string { return &m.To }, texts()),
	)))
}

func mounts() shape[[]api.Mount] {
	return boxed("mounts", lists(objects(
		at("id", func(m *api.Mount) *string { return &m.Id }, texts()),
		at("n", func(m *api.Mount) *int { return &m.N }, numbers()),
	)))
}
