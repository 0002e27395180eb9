package rs

import "flint/api"

// caught tells what do makes; if do panics, that error alone.
func caught[T any](do func() T) (answer T, e api.Errno) {
	defer func() {
		if fault := recover(); fault != nil {
			e = fault.(api.Errno) // anything else would be a fault of this package, not to be hidden
		}
	}()
	return do(), api.OK
}

// must tells an answer that has no error, and panics with the error where there is one.
func must[T any](answer T, e api.Errno) T {
	if e != api.OK {
		panic(e)
	}
	return answer
}

// mustFit panics, if there are not n shards, or those that are not missing are not equally long.
func mustFit(n int, shards ...[]byte) {
	if len(shards) != n {
		panic(api.ErrArg)
	}
	long := 0
	for _, shard := range shards {
		if long != 0 && len(shard) != 0 && len(shard) != long {
			panic(api.ErrArg)
		}
		long = max(long, len(shard))
	}
}

// mustBeThere panics, if one of the shards is missing.
func mustBeThere(shards ...[]byte) {
	if _, missing := parted(shards...); len(missing) > 0 {
		panic(api.ErrArg)
	}
}

// parted tells the numbers of the shards that are there, and of the missing ones.
func parted(shards ...[]byte) (there, missing []int) {
	for n, shard := range shards {
		if len(shard) == 0 {
			missing = append(missing, n)
		} else {
			there = append(there, n)
		}
	}
	return there, missing
}
