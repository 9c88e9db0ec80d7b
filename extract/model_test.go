package extract_test

import (
	"strings"

	"lighter/api"
	"lighter/archive"
	"lighter/crc"
	"lighter/inflate"
	"lighter/name"
	"lighter/parse"
	"lighter/zip"
)

// modelHeads of a directory that begins at a place and goes up to the end of all; false: there is none.
func modelHeads(s string, at int) ([]zip.Head, bool) {
	var heads []zip.Head
	rest := s[at:]
	for {
		h, n := zip.ReadCentral(rest)
		if n <= 0 {
			break
		}
		heads = append(heads, h)
		rest = rest[n:]
	}
	if rest != zip.End(uint64(len(heads)), uint64(len(s)-len(rest)-at), uint64(at)) {
		return nil, false
	}
	place := uint64(0)
	for _, h := range heads {
		if h.At != place {
			return nil, false
		}
		place += uint64(len(h.Local())+len(h.Descr())) + h.Packed
	}
	return heads, place == uint64(at)
}

// modelDirectory, by the document's words: it is looked for at each place.
func modelDirectory(s string) ([]zip.Head, bool) {
	for at := range s {
		if heads, ok := modelHeads(s, at); ok {
			return heads, true
		}
	}
	return nil, false
}

// answer to all questions.
type answer struct {
	names    []string
	namesErr api.Errno
	files    []archive.File
	errs     []api.Errno // of each name
	allErr   api.Errno
}

// modelOf an archive, by the document's words.
func modelOf(s string) answer {
	heads, ok := modelDirectory(s)
	if !ok {
		return answer{namesErr: api.ErrForm, allErr: api.ErrForm}
	}
	var a answer
	for _, h := range heads {
		a.names = append(a.names, h.Name)
	}
	if _, err := name.All(a.names); err != api.OK {
		return answer{namesErr: err, allErr: err}
	}
	for _, h := range heads {
		f, err := modelFile(s, h)
		a.files = append(a.files, f)
		a.errs = append(a.errs, err)
		if a.allErr == api.OK {
			a.allErr = err
		}
	}
	return a
}

// modelFile by its head.
func modelFile(s string, h zip.Head) (archive.File, api.Errno) {
	var none archive.File
	begin := int(h.At) + len(h.Local())
	end := begin + int(h.Packed)
	if s[h.At:begin] != h.Local() || s[end:end+len(h.Descr())] != h.Descr() {
		return none, api.ErrForm
	}
	if h.Kept {
		if h.Sum != 0 {
			return none, api.ErrSum
		}
		return archive.File{Name: h.Name, Time: h.Time}, api.OK
	}
	text, rest, err := inflate.All(s[begin:end])
	switch {
	case err != api.OK:
		return none, err
	case rest != "":
		return none, api.ErrForm
	case uint64(len(text)) != h.Size:
		return none, api.ErrSize
	case crc.Make().Sum(text) != h.Sum:
		return none, api.ErrSum
	}
	return archive.File{Name: h.Name, Time: h.Time, Data: text}, api.OK
}

// modelSalvage: what a parser tells of a text that comes byte by byte.
func modelSalvage(s string) ([]archive.File, int) {
	p := parse.New()
	var files []archive.File
	data := ""
	for _, b := range strings.Split(s, "") {
		events, _ := p.Feed(b)
		for _, e := range events {
			switch e.Kind {
			case parse.Begin:
				data = ""
			case parse.Data:
				data += e.Text
			case parse.File:
				files = append(files, archive.File{Name: e.Head.Name, Time: e.Head.Time, Data: data})
			}
		}
	}
	return files, p.Entries()
}
