package light

import (
	"slices"

	"barleycorn/api"
)

// maxMessage is the greatest number of entries of a message.
const maxMessage = api.MaxSide * api.MaxSide

// Latent returns the tilts of a latent image (P6.4).
func Latent(message []bool, yes, no api.Tilt) ([]api.Tilt, api.Errno) {
	if len(message) > maxMessage {
		return nil, api.ErrMany
	}
	if !isTilt(yes) || !isTilt(no) {
		return nil, api.ErrArg
	}
	image := make([]api.Tilt, len(message))
	for i, is := range message {
		image[i] = no
		if is {
			image[i] = yes
		}
	}
	return image, api.OK
}

// Shows returns the lights in which a latent image shows (P6.4).
func Shows(yes, no api.Tilt, pitch int, lights []api.Light) ([]int, api.Errno) {
	if e := checkLights(lights); e != api.OK {
		return nil, e
	}
	var shows []int
	for i, l := range lights {
		shade, e := Bright(yes, pitch, l)
		if e != api.OK {
			return nil, e
		}
		other, e := Bright(no, pitch, l)
		if e != api.OK {
			return nil, e
		}
		if shade != other {
			shows = append(shows, i)
		}
	}
	return shows, api.OK
}

// Read returns which of some shades are the greater ones (P6.4).
func Read(shades []api.Shade) ([]bool, api.Errno) {
	if len(shades) > maxMessage {
		return nil, api.ErrMany
	}
	for _, s := range shades {
		if !isShade(s) || lowest(s.Num, s.Den) != s {
			return nil, api.ErrArg
		}
	}
	different := slices.Clone(shades)
	slices.SortFunc(different, Compare)
	different = slices.Compact(different)
	if len(different) != 2 {
		return nil, api.ErrNone
	}
	message := make([]bool, len(shades))
	for i, s := range shades {
		message[i] = s == different[1]
	}
	return message, api.OK
}
