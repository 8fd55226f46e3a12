package tests

// textsOver are all texts of at most so many of some bytes, the empty one first.
func textsOver(letters string, most int) []string {
	all := []string{""}
	for from, long := 0, 0; long < most; long++ {
		end := len(all)
		for _, ahead := range all[from:end] {
			for i := range len(letters) {
				all = append(all, ahead+letters[i:i+1])
			}
		}
		from = end
	}
	return all
}

// oneByteAmiss are the texts with one byte less than a text, one more, or another one, at each place.
func oneByteAmiss(text string) []string {
	var tried []string
	for at := range len(text) + 1 {
		if at < len(text) {
			tried = append(tried, text[:at]+text[at+1:])
		}
		for b := range 256 {
			c := string([]byte{byte(b)})
			tried = append(tried, text[:at]+c+text[at:])
			if at < len(text) && text[at] != byte(b) {
				tried = append(tried, text[:at]+c+text[at+1:])
			}
		}
	}
	return tried
}
