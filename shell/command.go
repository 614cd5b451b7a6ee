package shell

// command is what a shell does with the words behind a name.
type command struct {
	name string
	form form
	do   func(s *Shell, words []string) string
}

// commands answers all commands, in the order of the chapter's table.
func commands() []command {
	return []command{
		{"tick", form{words: 1}, (*Shell).tick},
		{"get", form{words: 1}, (*Shell).get},
		{"delete", form{words: 1}, (*Shell).remove},
		{"post", form{words: 1, rest: true}, (*Shell).post},
		{"take", form{words: 1}, (*Shell).take},
		{"refuse", form{words: 1}, (*Shell).refuse},
		{"crash", form{pairs: true}, (*Shell).crash},
		{"now", form{}, (*Shell).now},
		{"counts", form{}, (*Shell).counts},
		{"files", form{}, (*Shell).files},
		{"series", form{}, (*Shell).series},
		{"active", form{}, (*Shell).active},
		{"alerts", form{}, (*Shell).alerts},
		{"silences", form{}, (*Shell).silences},
		{"marks", form{}, (*Shell).marks},
		{"config", form{}, (*Shell).config},
		{"expr", form{rest: true}, (*Shell).expr},
		{"labels", form{rest: true}, (*Shell).labels},
		{"regex", form{words: 1, rest: true}, (*Shell).regex},
		{"float", form{words: 1}, (*Shell).float},
		{"span", form{words: 1}, (*Shell).span},
		{"json", form{rest: true}, (*Shell).json},
	}
}

// form is what stands behind a command's name: so many words, and perhaps a rest, which counts as one word more; or any number of pairs of words.
type form struct {
	words int
	rest  bool
	pairs bool
}

// parted answers what stands behind a name, part by part; false, if there is too little of it, or too much.
func (f form) parted(s string) ([]string, bool) {
	if f.pairs {
		words := wordsOf(s)
		return words, len(words)%2 == 0
	}
	var parts []string
	for range f.words {
		word, behind := cut(s)
		if word == "" {
			return nil, false
		}
		parts = append(parts, word)
		s = behind
	}
	if f.rest {
		return append(parts, s), s != ""
	}
	return parts, s == ""
}

// wordsOf answers all words of a text.
func wordsOf(s string) []string {
	var words []string
	for {
		word, behind := cut(s)
		if word == "" {
			return words
		}
		words = append(words, word)
		s = behind
	}
}
